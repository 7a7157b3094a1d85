import Derived.Test.YtalflecmadacaaaGreatZBK
import Derived.BigQuiet
import Derived.Test.YtalflecmadacaaaGreatZAV
import Derived.Test.YtalflecmadacaaaGreatZBI
import Derived.Test.YtalflecmadacaaaGreatZBJ
import Derived.Sort.OwnSortedInts
import Derived.Test.YtalflecmadacaaaGreatShelfS
import Derived.Test.YtalflecmadacaaaGreatZAY
import Derived.Test.YtalflecmadacaaaGreatZAZ
import Derived.Test.YtalflecmadacaaaGreatZAH
set_option maxRecDepth 100000
set_option maxHeartbeats 8000000
namespace Go.Proofs.YtalflecmadacaaaGreat
open Go Go.Proofs Go.RowKit
theorem Qik (N:Nat)(l:List Ed)(r:List (List Int)):∀ f∈QaJ N l r,f.length≤2*l.length+1:=by
 have key:∀ j,∀ f∈(Qae (nxD r) (2*l.length+1) (Qal N l) j).1,f.length≤2*l.length+1:=by
  intro j
  induction j with
  | zero=>intro f hf;simp [Qae] at hf
  | succ j ih=>
   intro f hf
   rw [Qae] at hf
   split at hf
   ·exact ih f hf
   ·rcases YJ hf with h | h
    ·exact ih f h
    ·rw [YF h];exact QhY _ _ _ _
 exact key _
theorem Qku {N:Nat}{l:List Ed}(hR:RightG (N:Int) l)(r:List (List Int)):(QaJ N l r).length≤3*l.length:=by
 rw [← QmJ hR]
 exact (Qo3 hR r YA).1
theorem Qkw (N:Nat)(l:List Ed)(hR:RightG (N:Int) l)(r:List (List Int))(hS:SysR N l r)(hP:QdJ (numsL N l r)=0)(sv rv:Value)(w:World)(hl:Edges w.heap.size w sv l)(hr:Lsts w.heap.size w rv r):
  Calls Tryz.prog 30 #[.agg #[.int .i64 (N:Int),sv],rv] w fun e w'=>∃ gv,e = .returned (.tuple #[.agg #[.int .i64 ((QaJ N l r).length:Int),gv],.int .i64 0])∧Edges w'.heap.size w' gv (dualL (QaJ N l r) l)∧Below w.heap.size w w':=by
 have hm:=hR.m1
 have h1:=Qku hR r
 refine Qom (N:Int) l (by omega) (QaJ N l r) (by omega) (fun f hf=>?_) (QmH hR hS).nodup sv rv w hl (fun W h=>Qif N l hR r hS hP sv rv W (hl.go h) (hr.go h))
 have:=Qik N l r f hf
 omega
def wayM (L:List Eg)(V:List Int):Nat→Nat→List Int
 | 0,_=>[]
 | k+1,v=>if at' V v = -1 then [] else at' V v :: wayM L V k (par L V v)
theorem Qbu {L:List Eg}{V:List Int}{v:Nat}(h:at' V v = -1):∀ k,wayM L V k v=[]
 | 0=>rfl
 | _+1=>if_pos h
theorem QcE {L:List Eg}{V:List Int}{v k:Nat}(h:at' V v≠-1):wayM L V (k+1) v=at' V v :: wayM L V k (par L V v):=if_neg h
theorem Qmv (W:World):Go.Sort.grow W #[]=W:=by cases W;simp [Go.Sort.grow]
theorem QoT (N:Nat)(L:List Eg)(hN:N≤40)(hE:∀ e∈L,e.1<N∧e.2.1<N)(V:List Int)(lV:V.length=N)(hV:Qe3 L N V)(v:Nat)(hv:v<N)(sv vv:Value)(w:World)(hl:Edges w.heap.size w sv (L.map edE))(hI:Ints w.heap.size w vv V):
  Calls Tryz.prog 116 #[.agg #[.int .i64 (N:Int),sv],vv,.int .i64 (v:Int)] w fun r w'=>∃ rv,r = .returned rv∧w'.ownsRow w.heap.size 3 1 rv (wayM L V N v).length ((wayM L V N v).reverse.map (Value.int .i64))∧Below w.heap.size w w':=by
 have hmix:=mixed
 obtain⟨p,c,rfl⟩:=hl.lenG
 obtain⟨pv,cv,rfl,hov⟩:=hI.openW
 obtain⟨bv,ov,rfl,hbv,hcv⟩:=hov (j:=v) (by omega)
 obtain⟨i0,hi,hz0,hz1,hz2⟩:=Qcx Qmo
 have hb1:Below w.heap.size w (w.alloc (.cells #[.int .i64 (N:Int),.slice p L.length c] 24)):=YD.alloc YA _
 have hX1:Blk 24 (w.alloc (.cells #[.int .i64 (N:Int),.slice p L.length c] 24)) w.heap.size [.int .i64 (N:Int),.slice p L.length c]:=heap_alloc_new w _
 have q0:=hX1.cell (j:=0) rfl
 have hN1:(N:Int)<1048576:=by omega
 have HCV:Hid (∀ W',Below w.heap.size w W'→∀ i,i<N→W'.cell? ⟨bv,ov+i,none⟩=some (.int .i64 (at' V i))):=by rw [lV] at hcv;exact hcv
 have HL:Hid _:=hl
 have HV:Hid _:=hV
 have HE:Hid _:=hE
 rw [lV]
 clear hcv hov hl hI hV hE lV
 have hs1:(w.alloc (.cells #[.int .i64 (N:Int),.slice p L.length c] 24)).heap.size=w.heap.size+1:=by simp
 have hiv:∀ (u:Nat) W,u<N→Calls Tryz.prog 126 #[.agg #[.int .i64 (N:Int),.slice p L.length c],.int .i64 (u:Int)] W fun r w'=>r = .returned (.bool true)∧Grew W w':=fun u W hu=>by
  have h:=Qb8 (N:Int) (u:Int) (.slice p L.length c) W ⟨_,_,_,rfl⟩
  rwa [vtx_iff.2 (by omega)] at h
 go_enter Tryz.func116,Tryz.ntmps116
 go_wp2
 generalize w.alloc (.cells #[.int .i64 (N:Int),.slice p L.length c] 24)=w1 at *
 have hmax:max (1048576:Int) (N:Int)=1048576:=by omega
 have hmin:min (N:Int) 1048576=(N:Int):=by omega
 rw [hmax,hmin]
 clear hmax hmin
 go_loopg [2,8] N (fun k vv wv wr=>∃ (u:Nat) (A:List Int),vv = .int .i64 u∧u<N∧A.length+k=N∧Hid (A++wayM L V k u=wayM L V N v)∧wr.ownsRow (w.heap.size+1) 3 1 wv A.length (A.map (Value.int .i64))∧Blk 24 wr w.heap.size [.int .i64 (N:Int),.slice p L.length c]∧Below w.heap.size w wr)
 case atStart=>exact⟨v,[],rfl,hv,by simp,(show Hid _ from by simp [Hid]),World.ownsRow_nil _ _ _ _,hX1,hb1⟩
 case round=>
  clear hX1 hb1 q0 hs1
  obtain⟨u,A,rfl,hu,hAk,HA,hO,hX,hb⟩:=hrel
  obtain⟨pa,ca,rfl⟩:=Qaq hO
  have q0:=hX.cell (j:=0) rfl
  have q1:=hX.cell (j:=1) rfl
  have hiu:=hiv u wr hu
  have hul:(u:Int)<(N:Int):=by omega
  go_wp2_with fail
  refine hiu.mono ?_
  rintro e w2 ⟨rfl,hg2⟩
  clear hiu q0 q1
  have hX2:=hX.go hg2.below
  have hb2:=hb.trans (hg2.below.mono hb.size)
  have hO2:=Qar hO hg2.below
  clear hX hb hO hg2
  have v0:=HCV.out w2 hb2 u hu
  by_cases hstop:gk=0∨at' V u = -1
  ·have hAE:A=wayM L V N v:=by
    rw [← HA.out]
    rcases hstop with h | h
    ·rw [h];simp [wayM]
    ·rw [Qbu h];simp
   have HAE:Hid _:=hAE
   have hrv:∃ Q:Ending→World→Prop,(Calls Tryz.prog 151 #[.slice pa A.length ca] w2 Q)∧∀ e w',Q e w'→e = .returned (.tuple #[])∧w'.ownsRow w.heap.size 3 1 (.slice pa A.length ca) A.length (A.reverse.map (Value.int .i64))∧Below w.heap.size w w':=by
    by_cases hA0:A.length=0
    ·rw [hA0]
     refine⟨_,Tryz.slices_Reverse_int_empty pa ca w2,?_⟩
     rintro e w' ⟨rfl,rfl⟩
     have:A=[]:=List.eq_nil_of_length_eq_zero hA0
     subst this
     exact⟨rfl,Qa2 hO2 (by omega),hb2⟩
    ·obtain⟨g,cap,e⟩:=QcT hO2 (by omega)
     simp only [Value.slice.injEq] at e
     obtain⟨rfl,_,rfl⟩:=e
     rcases hO2.2 with ⟨h0,_⟩ | ⟨g2,cap2,cur2,e2,hbase,hblk,h1,h2,h3,h4⟩
     ·cases h0
     ·simp only [Value.slice.injEq,Option.some.injEq,Addr.mk.injEq] at e2
      obtain⟨⟨rfl,_,_⟩,_,rfl⟩:=e2
      refine⟨_,Tryz.slices_Reverse_int g 0 ca A w2 (holds_of_blockI hblk (by simpa using h4)) (by omega),?_⟩
      rintro e w3 ⟨rfl,nn,hw3⟩
      have hw4:w3=Go.Sort.grow (Go.Sort.putRow (Value.int .i64) (Go.Sort.ahead w2 nn) g 0 A.reverse.toArray) #[]:=by
       rw [hw3,Qmv]
      refine⟨rfl,?_,?_⟩
      ·rw [hw4]
       exact ownsRow_sortedI (ss:=A) (ts:=A.reverse) (by simp) (by omega) hblk h1 h2 h3
      ·have hg3:w2.grownBy w3 (some g):=by
        rw [hw4]
        exact grownBy_sortedI _
       exact hb2.grown hg3 hb2.size (fun q e=>by cases e;omega)
   obtain⟨QQ,hrv,hQQ⟩:=hrv
   have HQ:Hid _:=hQQ
   have HS:Hid _:=hstop
   clear hQQ hAE hstop
   by_cases hk0:gk=0
   ·have hd:((A.length:Int)==(N:Int))=true:=by simp;omega
    clear hAk HA hk0 HS
    go_wp2_with fail
    refine hrv.mono ?_
    intro e w3 hq3
    obtain⟨rfl,hO3,hb3⟩:=HQ.out e w3 hq3
    clear hrv
    go_wp2
    go_ret
    exact⟨_,rfl,by rw [← HAE.out];exact hO3,hb3⟩
   ·have hd:((A.length:Int)==(N:Int))=false:=by simp;omega
    rw [HS.out.resolve_left hk0] at v0
    clear hAk HA hk0 HS
    go_wp2_with fail
    refine hrv.mono ?_
    intro e w3 hq3
    obtain⟨rfl,hO3,hb3⟩:=HQ.out e w3 hq3
    clear hrv
    go_wp2
    go_ret
    exact⟨_,rfl,by rw [← HAE.out];exact hO3,hb3⟩
  ·obtain⟨k,HGK⟩:∃ k,Hid (gk=k+1):=⟨gk-1,show gk=gk-1+1 by omega⟩
   have hne:at' V u≠-1:=fun h=>hstop (.inr h)
   rcases HV.out u hu with h2 | ⟨i,e,h2,he,hev⟩
   ·exact absurd h2 hne
   ·have hd:((A.length:Int)==(N:Int))=false:=by have:=HGK.out;simp;omega
    have hstep:=QcE (L:=L) (k:=k) hne
    rw [QiX h2 he,h2] at hstep
    have HST:Hid _:=hstep
    have hil:=(YE he).1
    have hie:=(YE he).2
    have hen:Qcq L (i:Int) u=true:=ends_iff.2 ⟨i,rfl,e,he,hev⟩
    have hun:oth e u<N:=by
     have:=HE.out e (YK he)
     rcases Qfh hev with ⟨a,b⟩ | ⟨a,b⟩ <;> omega
    have hot:=fun W=>QgR e u W
    rw [h2] at v0
    have hni:¬ (i:Int) = -1:=by omega
    obtain⟨bl,ol,rfl,hbl,hcl,hcel⟩:=Edges.eg HL.out hil
    have HCE:Hid (∀ W',Below w.heap.size w W'→W'.cell? ⟨bl,ol+i*3,none⟩=some (.int .i64 (e.1:Int))∧W'.cell? ⟨bl,ol+i*3+1,none⟩=some (.int .i64 (e.2.1:Int))∧W'.cell? ⟨bl,ol+i*3+2,none⟩=some (.int .i64 (e.2.2:Int))):=fun W' hW=>by
     have:=hcel W' hW i hil
     rwa [hie] at this
    have hea:∀ W,Below w.heap.size w W→Calls Tryz.prog 149 #[.agg #[.int .i64 (N:Int),.slice (some ⟨bl,ol,none⟩) L.length c],.int .i64 (i:Int),.int .i64 (u:Int)] W fun r w'=>r = .returned (.bool true)∧Grew W w':=fun W h=>by
     have:=Qkv (N:Int) L (i:Int) u _ W ((Edges.below HL.out h).mono h.size)
     rwa [hen] at this
    have hil':(i:Int)<(L.length:Int):=by omega
    have HVI:Hid _:=h2
    clear hcel he hie hev hne h2 hstop hstep
    generalize oth e u=u' at *
    have hAL:A.length≤40:=by omega
    rw [HGK.out] at HA
    have hNu:decide (N≤u)=false:=by simp;omega
    have hib:((i:Int) == -1)=false:=by simp
    have HAK:Hid _:=hAk
    clear hAk
    go_wp2
    have hxl:=hX2.lt
    have q0g:=cell_grown (a:=⟨w.heap.size,0,none⟩) hxl (hX2.cell (j:=0) rfl)
    have q1g:=cell_grown (a:=⟨w.heap.size,1,none⟩) hxl (hX2.cell (j:=1) rfl)
    have v0g:=cell_grown (a:=⟨bv,ov+u,none⟩) (by show bv<_;omega) v0
    have hea1:∀ n os,Calls Tryz.prog 149 #[.agg #[.int .i64 (N:Int),.slice (some ⟨bl,ol,none⟩) L.length c],.int .i64 (i:Int),.int .i64 (u:Int)] (Go.Sort.grow (w2.drewN n) os) fun r w'=>r = .returned (.bool true)∧Grew (Go.Sort.grow (w2.drewN n) os) w':=fun n os=>hea _ (hb2.trans ((Grew.below ⟨n,os,rfl⟩).mono hb2.size))
    go_quiet_grown (first | (go_at_call 149;refine Calls.grown_of (hea1 _ _)))
    have hgr:Grew w2 (Go.Sort.grow (w2.drewN nq) osq):=⟨nq,osq,rfl⟩
    generalize Go.Sort.grow (w2.drewN nq) osq=w3 at *
    have hX3:=hX2.go hgr.below
    have hb3:=hb2.trans (hgr.below.mono hb2.size)
    have hO3:=Qar hO2 hgr.below
    clear q0g q1g v0g hea1 hea hX2 hb2 hO2 hgr v0 hxl
    have v3:=HCV.out w3 hb3 u hu
    rw [HVI.out] at v3
    have hOA:=World.ownsRow.alloc hO3 (.cells #[.int .i64 (i:Int)] 3)
    have hnews:=Qbg w3 (.int .i64 (i:Int)) 3
    have hmx:A.length+1≤maxLen:=by unfold maxLen;omega
    have hby:(A.length+1)*8≤140737488355328:=by omega
    have hxl:=hX3.lt
    have hbs:w.heap.size+1≤(w3.alloc (.cells #[.int .i64 (i:Int)] 3)).heap.size:=by simp only [World.size_alloc];omega
    have hlow:∀ q,(Value.slice pa A.length ca).ownBlock=some q→w.heap.size+1≤q:=fun q hq=>(hO3.lt q hq).1
    have hone:∀ z∈[Value.int .i64 (i:Int)],z.oneCell'=true:=YO
    go_wp2_with (at_builtin;refine wpList_append_own_at _ rfl _ _ 27 rfl (w.heap.size+1) 3 i0 (.int .i64 0) 1 8 Tryz.underlying27 hi hz0 hz1 hz2 rfl (by decide) (.slice pa A.length ca) _ _ rfl hOA ⟨w3.heap.size,0,none⟩ 1 1 [.int .i64 (i:Int)] rfl rfl hnews hone hmx hby hbs ?_)
    intro v7 w7 hown7 hg7 hnil7 hat7
    obtain⟨a7,c7,rfl⟩:=Qaq hown7
    have hbA:Below w.heap.size w (w3.alloc (.cells #[.int .i64 (i:Int)] 3)):=hb3.trans (((Below.refl w3.heap.size w3).alloc YA _).mono hb3.size)
    have hb7:Below w.heap.size w w7:=hbA.grown hg7 hbA.size (fun q hq=>by have:=hlow q hq;omega)
    have hXA:Blk 24 (w3.alloc (.cells #[.int .i64 (i:Int)] 3)) w.heap.size [.int .i64 (N:Int),.slice (some ⟨bl,ol,none⟩) L.length c]:=hX3.go ((Below.refl w3.heap.size w3).alloc YA _)
    have hX7:Blk 24 w7 w.heap.size [.int .i64 (N:Int),.slice (some ⟨bl,ol,none⟩) L.length c]:=(hg7.block w.heap.size hXA.lt (fun e=>by have:=hlow _ e.symm;omega)).trans hXA
    clear hg7 hnil7 hat7 hOA hnews hone hbs hXA hbA hX3 hb3 hO3 v3 hxl hlow hmx hby
    go_wp2
    have hs7:=hb7.size
    have hxl:=hX7.lt
    obtain⟨g0,g1,g2⟩:=HCE.out w7 hb7
    have v7:=HCV.out w7 hb7 u hu
    rw [HVI.out] at v7
    have q1g:=cell_grown (a:=⟨w.heap.size,1,none⟩) hxl (hX7.cell (j:=1) rfl)
    replace v7:=cell_grown (a:=⟨bv,ov+u,none⟩) (by show bv<_;omega) v7
    replace g0:=cell_grown (a:=⟨bl,ol+i*3,none⟩) (by show bl<_;omega) g0
    replace g1:=cell_grown (a:=⟨bl,ol+i*3+1,none⟩) (by show bl<_;omega) g1
    replace g2:=cell_grown (a:=⟨bl,ol+i*3+2,none⟩) (by show bl<_;omega) g2
    go_quiet_grown (first | (go_at_call 150;refine Calls.grown_of (hot _)))
    have hgr:Grew w7 (Go.Sort.grow (w7.drewN nq) osq):=⟨nq,osq,rfl⟩
    generalize Go.Sort.grow (w7.drewN nq) osq=w8 at *
    go_wp2
    go_roundg k
    case measure=>have:=HGK.out;omega
    case rel=>
     refine⟨u',A++[(i:Int)],rfl,hun,by have:=HAK.out;have:=HGK.out;simp;omega,?_,?_,hX7.go hgr.below,hb7.trans (hgr.below.mono hs7)⟩
     ·unfold Hid
      have:=HA.out
      rw [HST.out] at this
      rw [← this];simp
     ·rw [YI,List.map_append]
      exact Qar hown7 hgr.below
theorem IsD.few {l:List Eg}{s n M:Nat}{d:List Int}(h:IsD l s n d)(hl:∀ e∈l,e.1<n∧e.2.1<n)(hs:s<n)(hM:∀ e∈l,e.2.2≤M){v:Nat}(hv:v<n):at' d v≤((n*M:Nat):Int):=by
 rcases h.2 v hv with ⟨h1,_⟩ | ⟨c,h1,⟨L,h2⟩,h3⟩
 ·omega
 ·obtain⟨t,c',k1,k2,k3⟩:=Qee h2
  have h4:=QhD hM k1
  have h5:=QcY n _ k3 (Qnm hl hs k1)
  have h6:=Nat.mul_le_mul_right M h5
  have h7:=h3 _ _ k1
  omega
theorem OKc.valid {l:List Eg}{s n:Nat}{d via:List Int}(h:OKc l s n d via):Qe3 l n via:=fun v hv=>by
 by_cases e:v=s
 ·subst e;exact .inl h.zero
 ·rcases h.last v hv e with h1 | ⟨_,i,h1,e',h2,h3,_⟩
  ·exact .inl h1.2
  ·exact .inr ⟨i,e',h1,h2,h3⟩
def wP (l:List Eg)(p:Int):Int:=((l.getD p.toNat (0,0,0)).2.2:Int)
def sumP (l:List Eg)(A:List Int):Int:=(A.map (wP l)).sum
theorem QfH (l:List Eg):sumP l []=0:=rfl
theorem QaH (l:List Eg)(p:Int)(A:List Int):sumP l (p :: A)=wP l p+sumP l A:=by simp [sumP]
theorem Qef (l:List Eg)(A B:List Int):sumP l (A++B)=sumP l A+sumP l B:=by simp [sumP]
theorem QdE (l:List Eg):∀ A:List Int,sumP l A.reverse=sumP l A
 | []=>rfl
 | p :: A=>by rw [List.reverse_cons,Qef,QdE l A,QaH,QaH,QfH];omega
theorem QiK {l:List Eg}{M:Nat}(hM:∀ e∈l,e.2.2≤M):∀ A:List Int,0≤sumP l A∧sumP l A≤((A.length*M:Nat):Int)
 | []=>by simp [sumP]
 | p :: A=>by
  have h:=QiK hM A
  have h1:0≤wP l p∧wP l p≤(M:Int):=by
   unfold wP
   rw [YC]
   cases hq:l[p.toNat]? with
   | none=>simp
   | some e=>have:=hM e (YK hq);simp;omega
  have e1:(p :: A).length*M=A.length*M+M:=Nat.succ_mul _ _
  rw [QaH]
  omega
theorem QiB (l:List Eg)(via:List Int):∀ (k v:Nat),(wayM l via k v).length≤k
 | 0,_=>YA
 | k+1,v=>by
  unfold wayM
  split
  ·simp
  ·have:=QiB l via k (par l via v);simp;omega
theorem Qdf {l:List Eg}{n:Nat}{via:List Int}(hl:∀ e∈l,e.1<n∧e.2.1<n)(hV:Qe3 l n via):∀ (k v:Nat),v<n→∀ p∈wayM l via k v,∃ i:Nat,p=i∧i<l.length
 | 0,_,_,p,hp=>by simp [wayM] at hp
 | k+1,v,hv,p,hp=>by
  unfold wayM at hp
  split at hp
  ·simp at hp
  ·rename_i hne
   rcases List.mem_cons.1 hp with rfl | hp
   ·rcases hV v hv with h | ⟨i,e,h1,h2,_⟩
    ·exact absurd h hne
    ·exact⟨i,h1,(YE h2).1⟩
   ·exact Qdf hl hV k _ (QfR hl hV hv) p hp
theorem QoS {l:List Eg}{s n:Nat}{d via:List Int}(h:OKc l s n d via)(hl:∀ e∈l,e.1<n∧e.2.1<n)(hs:s<n):∀ (t:List Nat) (k v:Nat),v<n→0≤at' d v→CH l via s (v :: t)→t.length≤k→sumP l (wayM l via k v)=at' d v:=by
 have hbase:∀ k,sumP l (wayM l via k s)=at' d s:=fun k=>by rw [Qbu h.zero,QfH,h.dist.zero hs]
 intro t
 induction t with
 | nil=>
  intro k v hv h0 hc _
  have:v=s:=hc
  subst this
  exact hbase k
 | cons u t ih=>
  intro k v hv h0 hc hk
  by_cases e:v=s
  ·subst e;exact hbase k
  ·rcases h.last v hv e with h1 | ⟨_,hL⟩
   ·omega
   ·obtain⟨k',rfl⟩:∃ k',k=k'+1:=⟨k-1,by simp at hk;omega⟩
    obtain⟨i,hi,e',he,hm,hj,hp,hd⟩:=hL.par
    have hk1:=Qib (h.dist.kept hl hm) hj.symm h0
    have hpl:=QoG hl hL
    have hc2:=hc.2
    rw [hc.1] at hc2
    have ih':=ih k' (par l via v) hpl hk1.1 hc2 (by simp at hk;omega)
    rw [QcE (by omega),QaH,ih',hd]
    have hw:wP l (at' via v)=(e'.2.2:Int):=by
     unfold wP
     rw [hi,YM,YC,he]
     rfl
    rw [hw]
    omega
theorem OKc.sum {l:List Eg}{s n:Nat}{d via:List Int}(h:OKc l s n d via)(hl:∀ e∈l,e.1<n∧e.2.1<n)(hs:s<n){v:Nat}(hv:v<n)(h0:0≤at' d v):sumP l (wayM l via n v).reverse=at' d v:=by
 obtain⟨t,h1,h2⟩:=h.short hl hs hv h0
 rw [QdE]
 exact QoS h hl hs t n v hv h0 h1 (by omega)
theorem Qn2 {P:Nat→Prop}(h:∃ k,P k):∃ k,P k∧∀ j,j<k→¬ P j:=by
 obtain⟨k,hk⟩:=h
 induction k using Nat.strongRecOn with
 | ind k ih=>
  by_cases e:∃ j,j<k∧P j
  ·obtain⟨j,hj,hp⟩:=e
   exact ih j hj hp
  ·exact⟨k,hk,fun j hj hp=>e ⟨j,hj,hp⟩⟩
theorem QnG {e:Eg}{u x:Nat}(h:e.1=u∨e.2.1=u):tog e x=((u==x) ^^ (oth e u==x)):=by
 unfold tog oth
 by_cases k:e.1=u
 ·rw [if_pos k,k]
 ·rw [if_neg k,h.resolve_left k,Bool.xor_comm]
theorem Qpe {e:Eg}{u x:Nat}(h:e.1=u∨e.2.1=u)(h':e.1=x∨e.2.1=x)(hne:u≠x):oth e x=u:=by
 unfold oth
 by_cases k:e.1=x
 ·rw [if_pos k];exact h.resolve_left fun q=>hne (q.symm.trans k)
 ·rw [if_neg k]
  have:=h'.resolve_left k
  exact h.resolve_right fun q=>hne (q.symm.trans this)
theorem QpH {l:List Eg}{n:Nat}{V:List Int}(hl:∀ e∈l,e.1<n∧e.2.1<n)(hV:Qe3 l n V):∀ (k v:Nat),v<n→up l V k v<n
 | 0,_,h=>h
 | k+1,_,h=>QpH hl hV k _ (QfR hl hV h)
theorem Qne {l:List Eg}{s n:Nat}{V:List Int}(hl:∀ e∈l,e.1<n∧e.2.1<n)(hV:Qe3 l n V)(hz:at' V s = -1):∀ (k u:Nat),u<n→up l V k u=s→(∀ j,j<k→up l V j u≠s)→∀ K,(wayM l V K u).Nodup∧∀ p∈wayM l V K u,∃ j,j<k∧p=at' V (up l V j u):=by
 intro k
 induction k with
 | zero=>
  intro u hu h0 _ K
  have:u=s:=h0
  subst this
  rw [Qbu hz]
  exact⟨List.nodup_nil,by simp⟩
 | succ k ih=>
  intro u hu h0 hmin K
  cases K with
  | zero=>exact⟨by simp [wayM],by simp [wayM]⟩
  | succ K=>
   by_cases hn:at' V u = -1
   ·rw [Qbu hn];exact⟨List.nodup_nil,by simp⟩
   ·rw [QcE hn]
    have hpl:=QfR hl hV hu
    obtain⟨a,b⟩:=ih (par l V u) hpl h0 (fun j hj=>hmin (j+1) (by omega)) K
    refine⟨?_,?_⟩
    ·rw [List.nodup_cons]
     refine⟨fun hm=>?_,a⟩
     obtain⟨j,hj,he⟩:=b _ hm
     have hx:=QpH hl hV j (par l V u) hpl
     have back:∀ q,q≤k+1→0<q→up l V q u≠u:=fun q hq h1 hc=>by
      refine hmin (k+1-q) (by omega) ?_
      have h3:=QkI l V q (k+1-q) u
      rw [show q+(k+1-q)=k+1 by omega,hc,h0] at h3
      exact h3.symm
     have hne:u≠up l V j (par l V u):=fun hc=>back (j+1) (by omega) (by omega) hc.symm
     rcases hV u hu with h1 | ⟨i,e,h1,h2,h3⟩
     ·exact hn h1
     ·rcases hV _ hx with k1 | ⟨i',e',k1,k2,k3⟩
      ·exact hn (he.trans k1)
      ·have:i=i':=by have:=h1.symm.trans (he.trans k1);omega
       subst this
       have:e=e':=Option.some.inj (h2.symm.trans k2)
       subst this
       refine back (j+2) (by omega) (by omega) ?_
       show up l V (j+1) (par l V u)=u
       rw [QkH,QiX k1 k2]
       exact Qpe h3 k3 hne
    ·intro p hp
     rcases List.mem_cons.1 hp with rfl | hp
     ·exact⟨0,by omega,rfl⟩
     ·obtain⟨j,hj,he⟩:=b p hp
      exact⟨j+1,by omega,he⟩
theorem Qnf {l:List Eg}{s n:Nat}{V:List Int}(hl:∀ e∈l,e.1<n∧e.2.1<n)(hV:Qe3 l n V)(hz:at' V s = -1)(hne:∀ u,u<n→u≠s→(∃ k,up l V k u=s)→at' V u≠-1):∀ (k u:Nat),u<n→up l V k u=s→∀ K,k≤K→∀ x,oddA l (wayM l V K u) x=((u==x) ^^ (s==x)):=by
 intro k
 induction k with
 | zero=>
  intro u hu h0 K _ x
  have:u=s:=h0
  subst this
  rw [Qbu hz,QcX,Bool.xor_self]
 | succ k ih=>
  intro u hu h0 K hK x
  by_cases e:u=s
  ·subst e;rw [Qbu hz,QcX,Bool.xor_self]
  ·obtain⟨K',rfl⟩:∃ K',K=K'+1:=⟨K-1,by omega⟩
   have hn:=hne u hu e ⟨k+1,h0⟩
   rw [QcE hn,QaI,ih (par l V u) (QfR hl hV hu) h0 K' (by omega) x]
   rcases hV u hu with h1 | ⟨i,e',h1,h2,h3⟩
   ·exact absurd h1 hn
   ·rw [h1,Qcb h2,QnG h3,QiX h1 h2,← Bool.xor_assoc,Bool.xor_assoc (u==x),Bool.xor_self,Bool.xor_false]
def flips (T:List Bool)(A:List Int):List Bool:=A.foldl (fun T p=>flipB T p.toNat) T
theorem Qda:∀ (A:List Int)(T:List Bool) ,(flips T A).length=T.length
 | [],_=>rfl
 | p :: A,T=>by show (flips (flipB T p.toNat) A).length=_;rw [Qda A,QaN]
theorem Qkr (T:List Bool)(A:List Int)(p:Int):flips T (A++[p])=flipB (flips T A) p.toNat:=by simp [flips]
theorem Qjj:∀ (A:List Int)(T:List Bool) ,(∀ p∈A,0≤p∧p<(T.length:Int))→A.Nodup→∀ i:Nat,bAt (flips T A) i=(bAt T i ^^ decide ((i:Int)∈A))
 | [],T,_,_,i=>by simp [flips]
 | p :: A,T,h,hn,i=>by
  have hp:=h p (by simp)
  have hl:p.toNat<T.length:=by omega
  rw [List.nodup_cons] at hn
  show bAt (flips (flipB T p.toNat) A) i=_
  rw [Qjj A _ (fun q hq=>by rw [QaN];exact h q (by simp [hq])) hn.2 i,Qdb hl,Bool.xor_assoc]
  congr 1
  by_cases e:(i:Int)=p
  ·subst e
   have:decide ((i:Int)∈A)=false:=by simpa using hn.1
   rw [this];simp
  ·have h1:(p.toNat==i)=false:=by rw [beq_eq_false_iff_ne];omega
   rw [h1,Bool.false_xor]
   simp [e]
theorem QhV:∀ {A B:List Int} ,A.Nodup→B.Nodup→(∀ x,x∈A↔x∈B)→A.Perm B:=fun ha hb h=>(List.perm_ext_iff_of_nodup ha hb).2 h
theorem QjJ {A:List Int}(h:A.Pairwise (· < ·)):A.Nodup:=by
 unfold List.Nodup
 exact h.imp fun h=>Int.ne_of_lt h
theorem QmB {M:Nat}{A:List Int}(h:∀ p∈A,0≤p∧p<(M:Int))(hn:A.Nodup):(trueL (flips (List.replicate M false) A)).Perm A:=by
 have h2:∀ i:Nat,bAt (flips (List.replicate M false) A) i=decide ((i:Int)∈A):=fun i=>by
  rw [Qjj A _ (by simpa using h) hn]
  have:bAt (List.replicate M false) i=false:=by
   unfold bAt
   rw [YC,List.getElem?_replicate]
   split <;> rfl
  rw [this,Bool.false_xor]
 refine QhV (QjJ (Qcf _ _)) hn fun x=>?_
 rw [trueL_mem,Qda,List.length_replicate]
 constructor
 ·rintro⟨i,rfl,_,h3⟩
  rw [h2] at h3
  simpa using h3
 ·intro hx
  obtain⟨h3,h4⟩:=h x hx
  refine⟨x.toNat,by omega,by omega,?_⟩
  rw [h2,Int.toNat_of_nonneg h3]
  simpa using hx
theorem QkW {l:List Eg}{A B:List Int}(h:A.Perm B):sumP l A=sumP l B:=by
 induction h with
 | nil=>rfl
 | cons x _ ih=>rw [QaH,QaH,ih]
 | swap x y l'=>rw [QaH,QaH,QaH,QaH];omega
 | trans _ _ h1 h2=>exact h1.trans h2
def whole (R:Nat→Nat)(r:Nat)(l:List Eg)(A:List Int):List Int:=A.map fun p=>(((subP R r l).getD p.toNat 0:Nat):Int)
theorem Qcc {R:Nat→Nat}{r:Nat}{l:List Eg}{i:Nat}(h:i<(subE R r l).length):∃ j e,(subP R r l)[i]? = some j∧(subP R r l).getD i 0=j∧l[j]? = some e∧R e.1=r∧(subE R r l)[i]? = some (ren R r e):=by
 have hl:i<(subP R r l).length:=by rw [← (Qeh R r l).1];exact h
 obtain⟨e,h1,h2,h3⟩:=QoD (YB hl)
 exact⟨_,e,YB hl,by rw [YC,YB hl];rfl,h1,h2,h3⟩
theorem Qnd {R:Nat→Nat}{r:Nat}{l:List Eg}{A:List Int}(hA:∀ p∈A,∃ i:Nat,p=i∧i<(subE R r l).length):∀ p∈whole R r l A,0≤p∧p<(l.length:Int):=fun p hp=>by
 obtain⟨q,hq,rfl⟩:=List.mem_map.1 hp
 obtain⟨i,rfl,hi⟩:=hA q hq
 obtain⟨j,e,h1,h2,h3,_⟩:=Qcc hi
 rw [YM,h2]
 have:=(YE h3).1
 omega
theorem Qgp {R:Nat→Nat}{r:Nat}{l:List Eg}:∀ {A:List Int},(∀ p∈A,∃ i:Nat,p=i∧i<(subE R r l).length)→sumP l (whole R r l A)=sumP (subE R r l) A
 | [],_=>rfl
 | p :: A,hA=>by
  show sumP l (_ :: whole R r l A)=_
  rw [QaH,QaH,Qgp fun q hq=>hA q (by simp [hq])]
  obtain⟨i,rfl,hi⟩:=hA p (by simp)
  obtain⟨j,e,h1,h2,h3,_,h5⟩:=Qcc hi
  have a:wP l (((subP R r l).getD (i:Int).toNat 0:Nat):Int)=(e.2.2:Int):=by
   rw [YM,h2]
   simp [wP,h3]
  have b:wP (subE R r l) (i:Int)=(e.2.2:Int):=by simp [wP,h5,ren]
  rw [a,b]
theorem Qhx {R:Nat→Nat}{r:Nat}{l:List Eg}{A:List Int}(hA:∀ p∈A,∃ i:Nat,p=i∧i<(subE R r l).length)(hn:A.Nodup):(whole R r l A).Nodup:=by
 induction A with
 | nil=>simp [whole]
 | cons p A ih=>
  rw [List.nodup_cons] at hn
  show (_ :: whole R r l A).Nodup
  rw [List.nodup_cons]
  refine⟨fun hm=>?_,ih (fun q hq=>hA q (by simp [hq])) hn.2⟩
  obtain⟨q,hq,he⟩:=List.mem_map.1 hm
  obtain⟨i,rfl,hi⟩:=hA p (by simp)
  obtain⟨i',rfl,hi'⟩:=hA q (by simp [hq])
  obtain⟨j,e,h1,h2,_⟩:=Qcc hi
  obtain⟨j',e',k1,k2,_⟩:=Qcc hi'
  dsimp only at he
  rw [YM,YM,h2,k2] at he
  have hj:j'=j:=by omega
  subst hj
  obtain⟨a1,a2⟩:=YE h1
  obtain⟨b1,b2⟩:=YE k1
  have hii:i'=i:=by
   rcases Nat.lt_trichotomy i' i with c | c | c
   ·have:=List.pairwise_iff_getElem.1 (QgE R r l) i' i b1 a1 c
    omega
   ·exact c
   ·have:=List.pairwise_iff_getElem.1 (QgE R r l) i i' a1 b1 c
    omega
  subst hii
  exact hn.1 hq
theorem Qgr {R:Nat→Nat}{r:Nat}{l:List Eg}(hR:∀ e∈l,R e.1=R e.2.1){v:Nat}(hv:R v=r):∀ {A:List Int},(∀ p∈A,∃ i:Nat,p=i∧i<(subE R r l).length)→oddA l (whole R r l A) v=oddA (subE R r l) A (nm R r v)
 | [],_=>rfl
 | p :: A,hA=>by
  show oddA l (_ :: whole R r l A) v=_
  rw [QaI,QaI,Qgr hR hv fun q hq=>hA q (by simp [hq])]
  obtain⟨i,rfl,hi⟩:=hA p (by simp)
  obtain⟨j,e,h1,h2,h3,h4,h5⟩:=Qcc hi
  dsimp only
  rw [YM,h2,Qcb h3,Qcb h5]
  have he2:R e.2.1=r:=(hR e (YK h3)).symm.trans h4
  congr 1
  unfold tog ren
  have q1:(e.1==v)=(nm R r e.1==nm R r v):=by
   by_cases c:e.1=v
   ·rw [c];simp
   ·have:nm R r e.1≠nm R r v:=fun k=>c (QeA h4 hv k)
    rw [beq_eq_false_iff_ne.2 c,beq_eq_false_iff_ne.2 this]
  have q2:(e.2.1==v)=(nm R r e.2.1==nm R r v):=by
   by_cases c:e.2.1=v
   ·rw [c];simp
   ·have:nm R r e.2.1≠nm R r v:=fun k=>c (QeA he2 hv k)
    rw [beq_eq_false_iff_ne.2 c,beq_eq_false_iff_ne.2 this]
  rw [q1,q2]
theorem Qgq {R:Nat→Nat}{r:Nat}{l:List Eg}(hR:∀ e∈l,R e.1=R e.2.1){v:Nat}(hv:R v≠r):∀ {A:List Int},(∀ p∈A,∃ i:Nat,p=i∧i<(subE R r l).length)→oddA l (whole R r l A) v=false
 | [],_=>rfl
 | p :: A,hA=>by
  show oddA l (_ :: whole R r l A) v=_
  rw [QaI,Qgq hR hv fun q hq=>hA q (by simp [hq])]
  obtain⟨i,rfl,hi⟩:=hA p (by simp)
  obtain⟨j,e,h1,h2,h3,h4,h5⟩:=Qcc hi
  dsimp only
  rw [YM,h2,Qcb h3]
  have he2:R e.2.1=r:=(hR e (YK h3)).symm.trans h4
  unfold tog
  have q1:(e.1==v)=false:=beq_eq_false_iff_ne.2 fun c=>hv (by rw [← c];exact h4)
  have q2:(e.2.1==v)=false:=beq_eq_false_iff_ne.2 fun c=>hv (by rw [← c];exact he2)
  rw [q1,q2]
  rfl
def tookT (R:Nat→Nat)(r n:Nat)(l:List Eg)(V:List Int)(a:Nat):List Bool:=flips (List.replicate l.length false) (whole R r l (wayM (subE R r l) V n (nm R r a)).reverse)
theorem QiE (R:Nat→Nat)(r n:Nat)(l:List Eg)(V:List Int)(a:Nat):(tookT R r n l V a).length=l.length:=by
 unfold tookT
 rw [Qda,List.length_replicate]
theorem Qni {R:Nat→Nat}{r N a b:Nat}{l:List Eg}(hl:∀ e∈l,e.1<N∧e.2.1<N)(hR:∀ e∈l,R e.1=R e.2.1)(ha:a<N)(hb:b<N)(hab:a<b)(ra:R a=r)(rb:R b=r){D V:List Int}(h:OKc (subE R r l) (nm R r b) (nm R r N) D V)(h0:0≤at' D (nm R r a)):
  rsB (trueL (tookT R r (nm R r N) l V a)) l.length=true∧oddV N l (trueL (tookT R r (nm R r N) l V a))=[(a:Int),(b:Int)]∧sumP l (trueL (tookT R r (nm R r N) l V a))=at' D (nm R r a):=by
 have hls:=QdT (r:=r) hl hR
 have hna:=Qez ra ha
 have hnb:=Qez rb hb
 have hV:=h.valid
 have hval:=Qdf hls hV (nm R r N) (nm R r a) hna
 have hval':∀ p∈(wayM (subE R r l) V (nm R r N) (nm R r a)).reverse,∃ i:Nat,p=i∧i<(subE R r l).length:=fun p hp=>hval p (List.mem_reverse.1 hp)
 obtain⟨k,hk,hkm⟩:=Qn2 (h.come _ hna h0)
 obtain⟨hnd,_⟩:=Qne hls hV h.zero k _ hna hk hkm (nm R r N)
 have hwn:=Qhx hval' (List.Perm.nodup_iff (List.reverse_perm _) |>.2 hnd)
 have hperm:(trueL (tookT R r (nm R r N) l V a)).Perm (whole R r l (wayM (subE R r l) V (nm R r N) (nm R r a)).reverse):=QmB (M:=l.length) (Qnd hval') hwn
 have hkl:k≤nm R r N:=by
  obtain⟨t,h1,h2⟩:=h.short hls hnb hna h0
  have h3:=Qp4 h1
  by_cases c:k≤t.length
  ·omega
  ·exact absurd h3 (hkm _ (by omega))
 have hodd:=Qnf hls hV h.zero (fun u hu hne ⟨q,hq⟩=>by
  rcases h.last u hu hne with h1 | ⟨_,h2⟩
  ·intro _
   have:∀ q,up (subE R r l) V q u=u:=fun q=>by
    induction q with
    | zero=>rfl
    | succ q ih=>rw [QkH,ih,QcS h1.2]
   exact hne ((this q).symm.trans hq)
  ·obtain⟨i,hi,_⟩:=h2.par
   omega) k _ hna hk (nm R r N) hkl
 refine⟨?_,?_,?_⟩
 ·rw [rs_iff]
  refine⟨fun x hx=>?_,Qcf _ _⟩
  obtain⟨i,rfl,h1,_⟩:=trueL_mem.1 hx
  rw [QiE] at h1
  omega
 ·have hat:∀ v,v<N→oddA l (trueL (tookT R r (nm R r N) l V a)) v=((a==v) ^^ (b==v)):=fun v hv=>by
   rw [QgU hperm]
   by_cases c:R v=r
   ·rw [Qgr hR c hval',QgT,hodd]
    have q:∀ x,R x=r→(nm R r x==nm R r v)=(x==v):=fun x hx=>by
     by_cases d:x=v
     ·rw [d];simp
     ·rw [beq_eq_false_iff_ne.2 d,beq_eq_false_iff_ne.2 fun k=>d (QeA hx c k)]
    rw [q a ra,q b rb]
   ·have q1:(a==v)=false:=beq_eq_false_iff_ne.2 fun d=>c (by rw [← d];exact ra)
    have q2:(b==v)=false:=beq_eq_false_iff_ne.2 fun d=>c (by rw [← d];exact rb)
    rw [Qgq hR c hval',q1,q2]
    rfl
  refine QiP (Qcf _ _) (by simp;omega) fun x=>?_
  rw [oddV,trueL_mem,Qbd]
  constructor
  ·rintro⟨i,rfl,h1,h2⟩
   rw [QcW h1,hat i h1] at h2
   by_cases c:a=i
   ·subst c;simp
   ·rw [beq_eq_false_iff_ne.2 c,Bool.false_xor,beq_iff_eq] at h2
    subst h2;simp
  ·intro hx
   simp only [List.mem_cons,List.not_mem_nil,or_false] at hx
   rcases hx with rfl | rfl
   ·refine⟨a,rfl,ha,?_⟩
    rw [QcW ha,hat a ha,beq_eq_false_iff_ne.2 (show b≠a by omega)];simp
   ·refine⟨b,rfl,hb,?_⟩
    rw [QcW hb,hat b hb,beq_eq_false_iff_ne.2 (show a≠b by omega)];simp
 ·rw [QkW hperm,Qgp hval',h.sum hls hnb hna h0]
end Go.Proofs.YtalflecmadacaaaGreat
