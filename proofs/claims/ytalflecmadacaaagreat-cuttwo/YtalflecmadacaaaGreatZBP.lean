import Derived.Test.YtalflecmadacaaaGreatZBO
import Derived.BigQuiet
import Derived.Test.YtalflecmadacaaaGreatZAS
import Derived.Test.YtalflecmadacaaaGreatZBI
import Derived.Test.YtalflecmadacaaaGreatZBN
import Derived.Test.YtalflecmadacaaaGreatXCtSpread
import Derived.Test.YtalflecmadacaaaGreatZBM
import Derived.Test.YtalflecmadacaaaGreatZBF
import Derived.Test.YtalflecmadacaaaGreatZAA
set_option maxRecDepth 100000
set_option maxHeartbeats 8000000
namespace Go.Proofs.YtalflecmadacaaaGreat
open Go Go.Proofs Go.RowKit
theorem Qel:∀ (A B:List Int),A.Nodup→(∀ x∈A,x∈B)→B.length≤A.length→A.Perm B
 | [],B,_,_,h=>by
  have:B=[]:=List.eq_nil_of_length_eq_zero (by simpa using h)
  rw [this]
 | a :: A,B,hn,hs,hl=>by
  have ha:a∈B:=hs a (by simp)
  have hp:=List.perm_cons_erase ha
  rw [List.nodup_cons] at hn
  refine List.Perm.trans (List.Perm.cons a (Qel A (B.erase a) hn.2 (fun x hx=>?_) ?_)) hp.symm
  ·refine (List.mem_erase_of_ne ?_).2 (hs x (by simp [hx]))
   intro e
   rw [e] at hx
   exact hn.1 hx
  ·rw [List.length_erase_of_mem ha]
   simp at hl
   omega
def OneR (l:List Ed)(r:List (List Int))(u:Nat):Prop:=(r.getD u []).length=(nb l (u:Int)).length∧∀ x∈nb l (u:Int),x∈r.getD u []
theorem Qhi {N:Nat}{l:List Ed}{r:List (List Int)}(hR:RightG (N:Int) l)(hl:r.length=N)(h:∀ u,u<N→OneR l r u):SysR N l r:=
 ⟨hl,fun v hv=>(Qel _ _ ((Qco hR (v:Int)).imp fun {a b} (h:a<b)=>(show a≠b by omega)) (h v hv).2 (by rw [(h v hv).1];exact YA)).symm⟩
theorem SysR.one {N:Nat}{l:List Ed}{r:List (List Int)}(h:SysR N l r){u:Nat}(hu:u<N):OneR l r u:=⟨(h.perm u hu).length_eq,fun _ hx=>(h.perm u hu).mem_iff.2 hx⟩
theorem Qe3 (n:Int)(l:List Ed)(r:List (List Int))(sv rv:Value)(w:World)(hl:Edges w.heap.size w sv l)(hr:Lsts w.heap.size w rv r):
  Calls Tryz.prog 40 #[.agg #[.int .i64 n,sv],rv] w fun e w'=>e = .returned (.int .i64 (sysK n l r))∧Below w.heap.size w w':=by
 have hgA:Grew w (w.alloc (.cells #[.int .i64 n,sv] 24)):=(Grew.refl w).alloc _
 have hX:Blk 24 (w.alloc (.cells #[.int .i64 n,sv] 24)) w.heap.size [.int .i64 n,sv]:=heap_alloc_new w _
 have q0:=hX.cell (j:=0) rfl
 have q1:=hX.cell (j:=1) rfl
 have hrc:=Qgs n l sv _ (hl.go hgA.below)
 have HX:Hid (Blk 24 (w.alloc (.cells #[.int .i64 n,sv] 24)) w.heap.size [.int .i64 n,sv]):=hX
 have HL:Hid (Edges w.heap.size w sv l):=hl
 obtain⟨pr,cr,rfl⟩:=hr.len
 have HR0:Hid (Lsts w.heap.size w (.slice pr r.length cr) r):=hr
 have HBA:Hid _:=hgA.below
 clear hX hl hr hgA
 go_enter Tryz.func40,Tryz.ntmps40
 go_wp2_with fail
 generalize w.alloc (.cells #[.int .i64 n,sv] 24)=w1 at *
 refine hrc.mono ?_
 clear hrc
 rintro e w2 ⟨rfl,hg2⟩
 have hX2:=HX.out.go hg2.below
 have y0:=hX2.cell (j:=0) rfl
 have y1:=hX2.cell (j:=1) rfl
 have HB2:Hid (Below w.heap.size w w2):=HBA.out.trans (hg2.below.mono HBA.out.size)
 have HX2:Hid (Blk 24 w2 w.heap.size [.int .i64 n,sv]):=hX2
 clear hX2 q0 q1 HX hg2 HBA
 by_cases hk:rightK n l=0
 ·have hR:=right_iff.1 hk
  obtain⟨N,rfl⟩:∃ N:Nat,n=(N:Int):=⟨n.toNat,by have:=hR.n0;omega⟩
  have hn1:=hR.n1
  have hm1:=hR.m1
  have HR:Hid (RightG (N:Int) l):=hR
  rw [hk]
  by_cases hlen:r.length=N
  ·have hne:=QhA N l hR sv w2 (HL.out.go HB2.out)
   have hlen':((N:Int) != (N:Int))=false:=by simp
   rw [hlen] at HR0 ⊢
   clear hk hR
   go_wp2_with fail
   refine hne.mono ?_
   clear hne
   rintro e w3 ⟨nv,rfl,hN3,hb3⟩
   obtain⟨pn,cn,rfl⟩:=hN3.len
   rw [QaA] at hN3 ⊢
   have HN3:Hid (Lsts w3.heap.size w3 (.slice pn N cn) (nearL N l)):=hN3
   have HB3:Hid (Below w.heap.size w w3):=HB2.out.trans (hb3.mono HB2.out.size)
   have HX3:Hid (Blk 24 w3 w.heap.size [.int .i64 (N:Int),sv]):=HX2.out.go hb3
   clear hN3 hb3 HX2 y0 y1 hlen'
   go_wp2
   go_loopw [6] (fun iv wr=>∃ j:Nat,j≤N∧iv = .int .i64 j∧Hid (∀ u,u<j→OneR l r u)∧Below w3.heap.size w3 wr) (fun i _=>N-(intOf i).toNat)
   case atStart=>exact⟨0,YN,rfl,fun u h=>by omega,YD⟩
   case round=>
    obtain⟨j,hj,rfl,HS,hb⟩:=hrel
    have hXr:=HX3.out.go hb
    have x0:=hXr.cell (j:=0) rfl
    have hbw:Below w.heap.size w wr:=HB3.out.trans (hb.mono HB3.out.size)
    by_cases hlt:j<N
    ·have hjl:(j:Int)<(N:Int):=by omega
     have hRr:Lsts w.heap.size wr (.slice pr r.length cr) r:=by rw [hlen];exact HR0.out.below hbw
     have hNr:Lsts w3.heap.size wr (.slice pn (nearL N l).length cn) (nearL N l):=by rw [QaA];exact HN3.out.below hb
     have hjr:j<r.length:=by omega
     have hjn:j<(nearL N l).length:=by rw [QaA];exact hlt
     obtain⟨b,off,rfl,hbb,hcap,pA,cA,hIA,c0⟩:=hRr.cellAt hjr
     obtain⟨bn,offn,rfl,hbn,hcapn,pB,cB,hIB,d0⟩:=hNr.cellAt hjn
     have hgA:r.getD j []=r[j]:=by rw [YC,YB hjr];rfl
     have hgB:(nearL N l)[j]=nb l (j:Int):=by
      have:=QcW (l:=l) hlt
      rw [YB hjn,Option.some.injEq] at this
      exact this
     have hBl:(nearL N l)[j].length≤4194304:=by rw [hgB];exact Nat.le_trans (QaO _ _) hm1
     have HONE:Hid (OneR l r j↔r[j].length=(nearL N l)[j].length∧∀ x∈(nearL N l)[j],x∈r[j]):=by unfold Hid OneR;rw [hgA,hgB]
     have HNO:Hid (¬ OneR l r j→sysK (N:Int) l r=12):=fun h=>Qft HR.out fun hs=>h (SysR.one hs hlt)
     have HLT:Hid (j<N):=hlt
     have HIA:Hid (Ints wr.heap.size wr (.slice pA r[j].length cA) r[j]):=hIA.mono hbw.size
     have HIB:Hid (Ints wr.heap.size wr (.slice pB (nearL N l)[j].length cB) (nearL N l)[j]):=hIB.mono hb.size
     clear hgA hgB hRr hNr hIA hIB hXr
     generalize r[j]=A at *
     generalize (nearL N l)[j]=B at *
     clear hjr hjn hlt
     have HB:Hid (Below w3.heap.size w3 wr):=hb
     clear hb
     by_cases hl2:A.length=B.length
     ·have hl2':((A.length:Int) != (B.length:Int))=false:=by rw [hl2];simp
      have HL2:Hid (A.length=B.length):=hl2
      clear hl2
      go_wp2
      go_quiet (fail)
      have c0q:(wr.drewN nq).cell? ⟨b,off+j,none⟩=some (.slice pA A.length cA):=c0
      have d0q:(wr.drewN nq).cell? ⟨bn,offn+j,none⟩=some (.slice pB B.length cB):=d0
      have HBq:Hid (Below w3.heap.size w3 (wr.drewN nq)):=Qaa HB.out nq
      have HIAq:Hid (Ints (wr.drewN nq).heap.size (wr.drewN nq) (.slice pA A.length cA) A):=HIA.out
      have HIBq:Hid (Ints (wr.drewN nq).heap.size (wr.drewN nq) (.slice pB B.length cB) B):=HIB.out
      clear c0 d0 HB HIA HIB x0 hbw
      generalize wr.drewN nq=w4 at *
      go_wp2
      go_loopw [7] (fun iv wx=>∃ k:Nat,k≤B.length∧iv = .int .i64 k∧Hid (∀ (i:Nat) (h1:i<B.length),i<k→B[i]∈A)∧Below w4.heap.size w4 wx) (fun i _=>B.length-(intOf i).toNat)
      case atStart=>exact⟨0,YN,rfl,fun i _ h=>by omega,YD⟩
      case round=>
       obtain⟨k,hk,rfl,HIN,hbk⟩:=hrel
       have c1:=Qad hbk c0q
       have d1:=Qad hbk d0q
       by_cases hkl:k<B.length
       ·have hkl':(k:Int)<(B.length:Int):=by omega
        obtain⟨bB,oB,rfl,hbB,hcB,hcl⟩:=HIBq.out.open hkl
        have e1:=hcl wr hbk k hkl
        have hht:∀ q,Calls Tryz.prog 54 #[.slice pA A.length cA,.int .i64 B[k]] (wr.drewN q) fun r w'=>r = .returned (.bool (inB A B[k]))∧w'=wr.drewN q:=fun q=>QfP A (by have:=HL2.out;omega) _ _ _ _ (HIAq.out.go (Qaa hbk q))
        have HNI:Hid (inB A B[k]=true→∀ (i:Nat) (h1:i<B.length),i<k+1→B[i]∈A):=fun h i h1 hi=>by
         by_cases e:i=k
         ·subst e;exact inB_true.1 h
         ·exact HIN.out i h1 (by omega)
        have HNB:Hid (inB A B[k]=false→sysK (N:Int) l r=12):=fun h=>HNO.out (fun h1=>inB_false.1 h ((HONE.out.1 h1).2 _ (YG hkl)))
        have HKL:Hid (k<B.length):=hkl
        have HBk:Hid (Below w4.heap.size w4 wr):=hbk
        clear HIN hcl hbk
        generalize B[k]=x at *
        clear hkl
        go_wp2
        go_quiet ((go_at_call 54;exact Calls.quiet_of_same (hht _)))
        have HBq2:Hid (Below w4.heap.size w4 (wr.drewN nq)):=Qaa HBk.out nq
        generalize wr.drewN nq=w8 at HBq2 ⊢
        clear c1 d1 e1 hht
        cases hin:inB A x with
        | true=>
         have HN2:Hid _:=HNI.out hin
         clear hin HNI HNB
         go_wp2
         exact⟨⟨k+1,HKL.out,by go_num,HN2.out,HBq2.out⟩,by have:=HKL.out;simp [intOf];omega⟩
        | false=>
         have HE:Hid _:=HNB.out hin
         have HFB:Hid (Below w.heap.size w w8):=by
          have h1:=HBq.out.trans (HBq2.out.mono HBq.out.size)
          exact HB3.out.trans (h1.mono HB3.out.size)
         clear hin HNI HNB
         go_wp2
         go_ret
         exact⟨by rw [HE.out];rfl,HFB.out⟩
       ·obtain rfl:k=B.length:=by omega
        have HO2:Hid (∀ u,u<j+1→OneR l r u):=fun u hu=>by
         by_cases e:u=j
         ·subst e
          refine HONE.out.2 ⟨HL2.out,fun x hx=>?_⟩
          obtain⟨i,hi,rfl⟩:=List.getElem_of_mem hx
          exact HIN.out i hi hi
         ·exact HS.out u (by omega)
        have HFB:Hid (Below w3.heap.size w3 wr):=HBq.out.trans (hbk.mono HBq.out.size)
        clear HIN HONE HNO HS hbk
        go_wp2
        exact⟨⟨j+1,HLT.out,by go_num,HO2.out,HFB.out⟩,by have:=HLT.out;simp [intOf];omega⟩
     ·have hl2':((A.length:Int) != (B.length:Int))=true:=by rw [bne_iff_ne];omega
      have HE:Hid _:=HNO.out (fun h=>hl2 (HONE.out.1 h).1)
      clear HONE HNO HS hl2
      go_wp2
      go_quiet (fail)
      have HFB:Hid (Below w.heap.size w (wr.drewN nq)):=Qaa hbw nq
      generalize wr.drewN nq=w8 at HFB ⊢
      go_wp2
      go_ret
      exact⟨by rw [HE.out];rfl,HFB.out⟩
    ·obtain rfl:j=N:=by omega
     have HE:Hid _:=Qd2 HR.out (Qhi HR.out hlen HS.out)
     clear HS hXr
     go_wp2
     go_ret
     exact⟨by rw [HE.out];rfl,hbw⟩
  ·have hlen':((r.length:Int) != (N:Int))=true:=by rw [bne_iff_ne];omega
   have HE:Hid (sysK (N:Int) l r=12):=Qft HR.out fun h=>hlen h.len
   clear hk hR
   go_wp2
   go_ret
   exact⟨by rw [HE.out];rfl,HB2.out⟩
 ·have HE:Hid (sysK n l r=1):=if_neg hk
  generalize rightK n l=k at *
  go_wp2
  go_ret
  exact⟨by rw [HE.out];rfl,HB2.out⟩
theorem Qhj {n:Int}{l:List Ed}{r:List (List Int)}(h:sysK n l r=0):∃ N:Nat,n=(N:Int)∧RightG (N:Int) l∧SysR N l r:=by
 unfold sysK at h
 by_cases hk:rightK n l=0
 ·rw [if_pos hk] at h
  have hR:=right_iff.1 hk
  obtain⟨N,rfl⟩:∃ N:Nat,n=(N:Int):=⟨n.toNat,by have:=hR.n0;omega⟩
  refine⟨N,rfl,hR,?_⟩
  by_cases hs:r.map sortL=nearL (N:Int).toNat l
  ·exact (Qd1 hR).1 hs
  ·rw [if_neg hs] at h;cases h
 ·rw [if_neg hk] at h;cases h
theorem Qh4 (N:Nat)(l:List Ed)(r:List (List Int)):∀ f∈facesL N l r,f.length≤2*l.length+1:=by
 have key:∀ j,∀ f∈(Qae (nxD r) (2*l.length+1) (Qah N l) j).1,f.length≤2*l.length+1:=by
  intro j
  induction j with
  | zero=>intro f hf;simp [Qae] at hf
  | succ j ih=>
   intro f hf
   rw [Qae] at hf
   split at hf
   ·exact ih f hf
   ·rcases YJ hf with h | h
    ·exact ih f h
    ·rw [YF h];exact QhG _ _ _ _
 exact key _
theorem Qfl {N:Nat}{l:List Ed}(hR:RightG (N:Int) l)(r:List (List Int)):(facesL N l r).length≤3*l.length:=by
 rw [← QeI hR]
 exact (Qhp hR r YA).1
theorem QjX (N:Nat)(l:List Ed)(hR:RightG (N:Int) l)(r:List (List Int))(hS:SysR N l r)(hP:Qa5 (numsL N l r)=0)(sv rv:Value)(w:World)(hl:Edges w.heap.size w sv l)(hr:Lsts w.heap.size w rv r):
  Calls Tryz.prog 30 #[.agg #[.int .i64 (N:Int),sv],rv] w fun e w'=>∃ gv,e = .returned (.tuple #[.agg #[.int .i64 ((facesL N l r).length:Int),gv],.int .i64 0])∧Edges w'.heap.size w' gv (dualL (facesL N l r) l)∧Below w.heap.size w w':=by
 have hm:=hR.m1
 have h1:=Qfl hR r
 refine QnE (N:Int) l (by omega) (facesL N l r) (by omega) (fun f hf=>?_) (Qa2 hR hS).nodup sv rv w hl (fun W h=>QhX N l hR r hS hP sv rv W (hl.go h) (hr.go h))
 have:=Qh4 N l r f hf
 omega
def onlyC (R:Act→World→Prop):Exit→Act→World→Prop
 | .normal,a,w=>R a w
 | _,_,_=>False
theorem Qok {P:Program}{s:Code}{Q:Exit→Act→World→Prop}{a:Act}{w:World}(R:Act→World→Prop)(first:s.wp P (onlyC R) a w)(rest:∀ a' w',R a' w'→Q .normal a' w'):s.wp P Q a w:=by
 refine wp_mono first ?_
 intro e a' w' hq
 cases e with
 | normal=>exact rest _ _ hq
 | _=>exact hq.elim
theorem Qk3 {A:World}{base:Nat}{e:TypeId}{size:Nat}{v:Value}{n:Nat}{xs:List Value}(h:A.ownsRow base e size v n xs){p:Addr}(hp:∀ q,v.ownBlock=some q→q≠p.block)(u:Value):(A.setCell p u).ownsRow base e size v n xs:=by
 refine⟨h.1,?_⟩
 rcases h.2 with h1 | ⟨g,cap,cur,rfl,h2,h3,h4⟩
 ·exact .inl h1
 ·refine .inr ⟨g,cap,cur,rfl,h2,?_,h4⟩
  rw [← h3]
  exact heap_setCell_other _ p g _ (hp g rfl)
def JoinP (W:World)(cost:Int)(e:Ending)(w':World):Prop:=∃ (lv:Value) (I:List Int),e = .returned (.tuple #[lv,.int .i64 cost,.int .i64 0])∧w'.ownsRow W.heap.size 3 1 lv I.length (I.map (Value.int .i64))∧I.Pairwise (· < ·)∧I.length≤4194304∧Below W.heap.size W w'
theorem QiG (N:Nat)(l:List Ed)(hR:RightG (N:Int) l)(r:List (List Int))(hS:SysR N l r)(hP:Qa5 (numsL N l r)=0)(hn:l.any negB=false)(hw:∀ e∈l,-2147483648≤e.2.2∧e.2.2≤2147483648)(cost:Int)(hc0 : -9007199254740992≤cost)(hc1:cost≤9007199254740992)
  (hJ:∀ W gv bv,Edges W.heap.size W gv (dualL (facesL N l r) l)→Ints W.heap.size W bv (oddK ((facesL N l r).length:Int) (dualL (facesL N l r) l) (iotaI l.length l.length))→Calls Tryz.prog 31 #[.agg #[.int .i64 ((facesL N l r).length:Int),gv],bv] W fun e w'=>JoinP W cost e w')
  (sv rv:Value) (w:World) (hl:Edges w.heap.size w sv l) (hr:Lsts w.heap.size w rv r) :
  Calls Tryz.prog 16 #[.agg #[.int .i64 (N:Int),sv],rv] w fun e w'=>∃ (g:Nat) (SD:List Bool),e = .returned (.tuple #[.slice (some ⟨g,0,none⟩) N N,.int .i64 (sumC l l.length-cost),.int .i64 0])∧w.heap.size≤g∧Blk 4 w' g (SD.map Value.bool)∧SD.length=N∧bAt SD 0=false∧Below w.heap.size w w':=by
 have hmix:=mixed
 obtain⟨p,c,rfl⟩:=hl.len
 obtain⟨pr,cr,rfl⟩:=hr.len
 have hm1:=hR.m1
 obtain⟨w1,hw1⟩:∃ W,(w.alloc (.cells #[.int .i64 (N:Int),.slice p l.length c] 24))=W:=⟨_,rfl⟩
 have hb1:Below w.heap.size w w1:=by rw [← hw1];exact YD.alloc YA _
 have hX1:Blk 24 w1 w.heap.size [.int .i64 (N:Int),.slice p l.length c]:=by rw [← hw1];exact heap_alloc_new w _
 have hft:=QlW (N:Int) l (by omega) (.slice p l.length c) w1 (hl.go hb1)
 have hfc:fitC (N:Int) l=0:=by unfold fitC;rw [if_pos (right_iff.2 hR),hn];rfl
 rw [hfc] at hft
 have HX1:Hid (Blk 24 w1 w.heap.size [.int .i64 (N:Int),.slice p l.length c]):=hX1
 have HB1:Hid (Below w.heap.size w w1):=hb1
 have HL:Hid (Edges w.heap.size w (.slice p l.length c) l):=hl
 have HLr:Hid (Lsts w.heap.size w (.slice pr r.length cr) r):=hr
 have HR:Hid (RightG (N:Int) l):=hR
 have HJ:Hid _:=hJ
 have HWt:Hid _:=hw
 have x0:=hX1.cell (j:=0) rfl
 have x1:=hX1.cell (j:=1) rfl
 have hdp:=fun W h=>QjX N l hR r hS hP (.slice p l.length c) (.slice pr r.length cr) W (hl.go h) (hr.go h)
 have HDP:Hid (∀ W,Below w.heap.size w W→_):=hdp
 clear hX1 hb1 hl hr hJ hw hfc hdp hR hS hP hn
 go_enter Tryz.func16,Tryz.ntmps16
 go_wp2_with fail
 refine hft.mono ?_
 rintro e w2 ⟨rfl,hg2⟩
 clear hft hw1 x0 x1
 have hX2:=HX1.out.go hg2.below
 have HX2:Hid (Blk 24 w2 w.heap.size [.int .i64 (N:Int),.slice p l.length c]):=hX2
 have HB2:Hid (Below w.heap.size w w2):=HB1.out.trans (hg2.below.mono HB1.out.size)
 have x0:=hX2.cell (j:=0) rfl
 have x1:=hX2.cell (j:=1) rfl
 have hdu:=HDP.out w2 HB2.out
 clear hX2 hg2 HX1 HB1 HDP
 go_wp2_with fail
 refine hdu.mono ?_
 rintro e w3 ⟨gv,rfl,hg3,hb3⟩
 clear hdu x0 x1
 obtain⟨pg,cg,rfl⟩:=hg3.len
 have HB3:Hid (Below w.heap.size w w3):=HB2.out.trans (hb3.mono HB2.out.size)
 have HX3:Hid (Blk 24 w3 w.heap.size [.int .i64 (N:Int),.slice p l.length c]):=HX2.out.go hb3
 obtain⟨DL,hDL⟩:∃ DL,dualL (facesL N l r) l=DL:=⟨_,rfl⟩
 have HDL:Hid (DL.length=l.length):=by show _=_;rw [← hDL];exact QbH _ _
 have HJ2:Hid (∀ W gv bv,Edges W.heap.size W gv DL→Ints W.heap.size W bv (oddK ((facesL N l r).length:Int) DL (iotaI DL.length DL.length))→Calls Tryz.prog 31 #[.agg #[.int .i64 ((facesL N l r).length:Int),gv],bv] W fun e w'=>JoinP W cost e w'):=by
  have h:=HJ.out
  rw [hDL] at h
  rw [HDL.out]
  exact h
 rw [hDL] at hg3 ⊢
 obtain⟨F,hF⟩:∃ F,(facesL N l r).length=F:=⟨_,rfl⟩
 rw [hF] at HJ2 ⊢
 have HG3:Hid (Edges w3.heap.size w3 (.slice pg DL.length cg) DL):=hg3
 clear hDL hF hb3 hg3 HX2 HB2 HJ
 have HN4:Hid (Blk 24 (w3.alloc (.cells #[.int .i64 (F:Int),.slice pg DL.length cg] 24)) w3.heap.size [.int .i64 (F:Int),.slice pg DL.length cg]):=heap_alloc_new w3 _
 have HB4:Hid (Below w3.heap.size w3 (w3.alloc (.cells #[.int .i64 (F:Int),.slice pg DL.length cg] 24))):=YD.alloc YA _
 go_wp2
 obtain⟨w4,hw4⟩:∃ W,w3.alloc (.cells #[.int .i64 (F:Int),.slice pg DL.length cg] 24)=W:=⟨_,rfl⟩
 rw [hw4] at HN4 HB4 ⊢
 clear hw4
 obtain⟨xd,hxd⟩:∃ n,w3.heap.size=n:=⟨_,rfl⟩
 have n0:=HN4.out.cell (j:=0) rfl
 have n1:=HN4.out.cell (j:=1) rfl
 rw [hxd] at HN4 n0 n1 ⊢
 have HG4:Hid (Edges w4.heap.size w4 (.slice pg DL.length cg) DL):=HG3.out.go HB4.out
 refine Qok (fun a' w'=>∃ (bx:Nat) (v26 v27 v28 v29 v30 v31 v32 v33 iv:Value) (I:List Int),a'={ tmps:=#[.agg #[.int .i64 (N:Int),.slice p l.length c],.slice pr r.length cr,.pointer (some ⟨w.heap.size,0,none⟩),undef,.slice none 0 0,.int .i64 0,.int .i64 0,.int .i64 0,.pointer (some ⟨xd,0,none⟩),.pointer (some ⟨bx,0,none⟩),.int .i64 cost,undef,.agg #[.int .i64 (N:Int),.slice p l.length c],.int .i64 0,.int .i64 0,.bool false,undef,.tuple #[.agg #[.int .i64 (F:Int),.slice pg DL.length cg],.int .i64 0],.agg #[.int .i64 (N:Int),.slice p l.length c],.slice pr r.length cr,.tuple #[.agg #[.int .i64 (F:Int),.slice pg DL.length cg],.int .i64 0],.agg #[.int .i64 (F:Int),.slice pg DL.length cg],.int .i64 0,.int .i64 0,.bool false,undef,v26,v27,v28,v29,v30,v31,v32,v33,undef,undef,undef,undef,undef,undef,undef,undef,undef,undef,undef],defers:=[] }∧w'.cell? ⟨bx,0,none⟩=some iv∧Ints w'.heap.size w' iv I∧I.Pairwise (· < ·)∧I.length≤4194304∧Below w4.heap.size w4 w') ?_ ?_
 ·refine Qai (S:=(fun w':World=>w'.cell? ⟨xd,0,none⟩=some (.int .i64 (F:Int))∧w'.cell? ⟨xd,1,none⟩=some (.slice pg DL.length cg))) (by kernel_rfl) ⟨n0,n1⟩ (fun hHeld=>?_)
  have hbd:Below w4.heap.size w4 w4.drew:=Qaa YD 1
  refine tL 0 ?_
  try simp only [YS]
  refine tL 1 ?_
  refine Qac (rs:=[2,8]) (by kernel_rfl) (by simp) ?_
  refine AllReadyL.cons rfl (fun K hK=>?_) (AllReadyL.cons rfl (fun K hK=>?_) AllReadyL.nil)
  ·go_simp
   refine (Qem (F:Int) DL (by have:=HDL.out;omega) (.slice pg DL.length cg) w4.drew (HG4.out.go hbd)).mono ?_
   rintro e w5 ⟨bv,rfl,hbi,hbo⟩
   obtain⟨pq,cq,rfl⟩:=hbi.len
   have hbw5:Below w4.heap.size w4 w5:=hbd.trans (hbo.mono hbd.size)
   refine hK.out _ _ ⟨Qad hbo hHeld.1,Qad hbo hHeld.2⟩ (fun hHeld5=>?_)
   clear hK K
   try simp only [Act.put,YS,YT,YU]
   refine Qac (rs:=[3,8]) (by kernel_rfl) (by simp) ?_
   refine AllReadyL.cons rfl (fun K hK=>?_) (AllReadyL.cons rfl (fun K hK=>?_) AllReadyL.nil)
   ·go_simp
    refine (HJ2.out w5 (.slice pg DL.length cg) _ (HG4.out.go hbw5) hbi).mono ?_
    rintro e w6 ⟨lv,I,rfl,hIi,hIp,hIl,hjb⟩
    obtain⟨pl,cl,rfl⟩:=Qaf hIi
    have hbw6:Below w4.heap.size w4 w6:=hbw5.trans (hjb.mono hbw5.size)
    refine hK.out _ _ ⟨Qad hjb hHeld5.1,Qad hjb hHeld5.2⟩ (fun hHeld6=>?_)
    clear hK K
    try simp only [Act.put,YS,YT,YU]
    refine tL 4 ?_
    try simp only [YS]
    refine tL 5 ?_
    refine tL 6 ?_
    refine tL 7 ?_
    refine Qac (rs:=[8]) (by kernel_rfl) (by simp) ?_
    refine AllReadyL.cons rfl (fun K hK=>?_) AllReadyL.nil
    go_simp
    have hba:Below w6.heap.size w6 (w6.alloc (.cells #[.slice none 0 0] 27)):=YD.alloc YA _
    have hBx:Blk 27 (w6.alloc (.cells #[.slice none 0 0] 27)) w6.heap.size [.slice none 0 0]:=heap_alloc_new w6 _
    refine hK.out _ _ ⟨Qad hba hHeld6.1,Qad hba hHeld6.2⟩ (fun hHeld7=>?_)
    clear hK K
    try simp only [Act.put,YS,YT,YU]
    have hbw7:Below w4.heap.size w4 (w6.alloc (.cells #[.slice none 0 0] 27)):=hbw6.trans (hba.mono hbw6.size)
    obtain⟨w7,hww7⟩:∃ W,w6.alloc (.cells #[.slice none 0 0] 27)=W:=⟨_,rfl⟩
    rw [hww7] at hba hBx hbw7 hHeld7 ⊢
    clear hww7
    obtain⟨bx,hbx⟩:∃ n,w6.heap.size=n:=⟨_,rfl⟩
    have hbx4:w4.heap.size≤bx:=by rw [← hbx];exact hbw6.size
    have HBX:Hid (w6.heap.size=bx):=hbx
    rw [hbx] at hBx ⊢
    clear hbx
    have f0:=hBx.frozen 0
    have y0:=hBx.cell (j:=0) rfl
    refine Qac (rs:=[9]) (by kernel_rfl) (by simp) ?_
    refine AllReadyL.cons rfl (fun K hK=>?_) AllReadyL.nil
    go_simp
    have hxb:bx≠xd:=by have:=HN4.out.lt;omega
    refine hK.out _ _ ⟨by rw [World.cell?_setCell_far _ _ _ _ hxb];exact hHeld7.1,by rw [World.cell?_setCell_far _ _ _ _ hxb];exact hHeld7.2⟩ (fun hHeld9=>?_)
    clear hK K
    try simp only [Act.put,YS,YT,YU]
    refine tL 10 ?_
    refine Qac (rs:=[11]) (by kernel_rfl) (by simp) ?_
    refine AllReadyL.last rfl (by kernel_rfl) (fun K hK=>?_)
    go_simp
    refine hK.out _ _ ?_
    clear hK K
    try simp only [Act.put,YS,YT,YU]
    refine Qak (by kernel_rfl) ?_ _
    have hset:=hBx.set 0 (.slice pl I.length cl)
    exact⟨bx,_,_,_,_,_,_,_,_,_,I,rfl,hset.cell (j:=0) rfl,QbE (Qk3 (QaY hIi hba) (p:=⟨bx,0,none⟩) (fun q hq=>by have h1:=(hIi.lt q hq).2;have h2:=HBX.out;show q≠bx;omega) _),hIp,hIl,hbw7.setCell (p:=⟨bx,0,none⟩) (by show _≤bx;omega) _⟩
   ·go_simp
    have hba:Below w5.heap.size w5 (w5.alloc (.cells #[.slice none 0 0] 27)):=YD.alloc YA _
    have hBx:Blk 27 (w5.alloc (.cells #[.slice none 0 0] 27)) w5.heap.size [.slice none 0 0]:=heap_alloc_new w5 _
    refine hK.out _ _ ⟨Qad hba hHeld5.1,Qad hba hHeld5.2⟩ (fun hHeld7=>?_)
    clear hK K
    try simp only [Act.put,YS,YT,YU]
    have hbw7:Below w4.heap.size w4 (w5.alloc (.cells #[.slice none 0 0] 27)):=hbw5.trans (hba.mono hbw5.size)
    obtain⟨w7,hww7⟩:∃ W,w5.alloc (.cells #[.slice none 0 0] 27)=W:=⟨_,rfl⟩
    rw [hww7] at hba hBx hbw7 hHeld7 ⊢
    clear hww7
    obtain⟨bx,hbx⟩:∃ n,w5.heap.size=n:=⟨_,rfl⟩
    have hbx4:w4.heap.size≤bx:=by rw [← hbx];exact hbw5.size
    rw [hbx] at hBx ⊢
    clear hbx
    refine Qac (rs:=[3]) (by kernel_rfl) (by simp) ?_
    refine AllReadyL.cons rfl (fun K hK=>?_) AllReadyL.nil
    go_simp
    refine (HJ2.out w7 (.slice pg DL.length cg) _ (HG4.out.go hbw7) (hbi.go hba)).mono ?_
    rintro e w8 ⟨lv,I,rfl,hIi,hIp,hIl,hjb⟩
    obtain⟨pl,cl,rfl⟩:=Qaf hIi
    have hbw8:Below w4.heap.size w4 w8:=hbw7.trans (hjb.mono hbw7.size)
    refine hK.out _ _ ⟨Qad hjb hHeld7.1,Qad hjb hHeld7.2⟩ (fun hHeld8=>?_)
    clear hK K
    try simp only [Act.put,YS,YT,YU]
    refine tL 4 ?_
    try simp only [YS]
    refine tL 5 ?_
    refine tL 6 ?_
    refine tL 7 ?_
    have hBx8:=hBx.go hjb
    have f0:=hBx8.frozen 0
    have y0:=hBx8.cell (j:=0) rfl
    refine Qac (rs:=[9]) (by kernel_rfl) (by simp) ?_
    refine AllReadyL.cons rfl (fun K hK=>?_) AllReadyL.nil
    go_simp
    have hxb:bx≠xd:=by have:=HN4.out.lt;omega
    refine hK.out _ _ ⟨by rw [World.cell?_setCell_far _ _ _ _ hxb];exact hHeld8.1,by rw [World.cell?_setCell_far _ _ _ _ hxb];exact hHeld8.2⟩ (fun hHeld9=>?_)
    clear hK K
    try simp only [Act.put,YS,YT,YU]
    refine tL 10 ?_
    refine Qac (rs:=[11]) (by kernel_rfl) (by simp) ?_
    refine AllReadyL.last rfl (by kernel_rfl) (fun K hK=>?_)
    go_simp
    refine hK.out _ _ ?_
    clear hK K
    try simp only [Act.put,YS,YT,YU]
    refine Qak (by kernel_rfl) ?_ _
    have hset:=hBx8.set 0 (.slice pl I.length cl)
    exact⟨bx,_,_,_,_,_,_,_,_,_,I,rfl,hset.cell (j:=0) rfl,QbE (Qag hIi (p:=⟨bx,0,none⟩) hBx.lt _),hIp,hIl,hbw8.setCell (p:=⟨bx,0,none⟩) (by show _≤bx;omega) _⟩
  ·go_simp
   have hba:Below w4.heap.size w4 ((w4.alloc (.cells #[.slice none 0 0] 27)).drew):=((Grew.refl w4).alloc _ |>.drewN 1).below
   have hBx:Blk 27 ((w4.alloc (.cells #[.slice none 0 0] 27)).drew) w4.heap.size [.slice none 0 0]:=heap_alloc_new w4 _
   have hlx4:w4.heap.size<((w4.alloc (.cells #[.slice none 0 0] 27)).drew).heap.size:=hBx.lt
   refine hK.out _ _ ⟨Qad hba n0,Qad hba n1⟩ (fun hHeld7=>?_)
   clear hK K
   try simp only [Act.put,YS,YT,YU]
   obtain⟨w7,hww7⟩:∃ W,((w4.alloc (.cells #[.slice none 0 0] 27)).drew)=W:=⟨_,rfl⟩
   rw [hww7] at hba hBx hHeld7 hlx4 ⊢
   clear hww7
   have hbw7:Below w4.heap.size w4 w7:=hba
   refine Qac (rs:=[2]) (by kernel_rfl) (by simp) ?_
   refine AllReadyL.cons rfl (fun K hK=>?_) AllReadyL.nil
   go_simp
   refine (Qem (F:Int) DL (by have:=HDL.out;omega) (.slice pg DL.length cg) w7 (HG4.out.go hbw7)).mono ?_
   rintro e w5 ⟨bv,rfl,hbi,hbo⟩
   obtain⟨pq,cq,rfl⟩:=hbi.len
   have hbw5:Below w4.heap.size w4 w5:=hbw7.trans (hbo.mono hbw7.size)
   refine hK.out _ _ ⟨Qad hbo hHeld7.1,Qad hbo hHeld7.2⟩ (fun hHeld5=>?_)
   clear hK K
   try simp only [Act.put,YS,YT,YU]
   refine Qac (rs:=[3]) (by kernel_rfl) (by simp) ?_
   refine AllReadyL.cons rfl (fun K hK=>?_) AllReadyL.nil
   go_simp
   refine (HJ2.out w5 (.slice pg DL.length cg) _ (HG4.out.go hbw5) hbi).mono ?_
   rintro e w8 ⟨lv,I,rfl,hIi,hIp,hIl,hjb⟩
   obtain⟨pl,cl,rfl⟩:=Qaf hIi
   have hbw8:Below w4.heap.size w4 w8:=hbw5.trans (hjb.mono hbw5.size)
   refine hK.out _ _ ⟨Qad hjb hHeld5.1,Qad hjb hHeld5.2⟩ (fun hHeld8=>?_)
   clear hK K
   try simp only [Act.put,YS,YT,YU]
   refine tL 4 ?_
   try simp only [YS]
   refine tL 5 ?_
   refine tL 6 ?_
   refine tL 7 ?_
   have hBx8:=(hBx.go hbo).go hjb
   have f0:=hBx8.frozen 0
   have y0:=hBx8.cell (j:=0) rfl
   refine Qac (rs:=[9]) (by kernel_rfl) (by simp) ?_
   refine AllReadyL.cons rfl (fun K hK=>?_) AllReadyL.nil
   go_simp
   have hxb:w4.heap.size≠xd:=by have:=HN4.out.lt;omega
   refine hK.out _ _ ⟨by rw [World.cell?_setCell_far _ _ _ _ hxb];exact hHeld8.1,by rw [World.cell?_setCell_far _ _ _ _ hxb];exact hHeld8.2⟩ (fun hHeld9=>?_)
   clear hK K
   try simp only [Act.put,YS,YT,YU]
   refine tL 10 ?_
   refine Qac (rs:=[11]) (by kernel_rfl) (by simp) ?_
   refine AllReadyL.last rfl (by kernel_rfl) (fun K hK=>?_)
   go_simp
   refine hK.out _ _ ?_
   clear hK K
   try simp only [Act.put,YS,YT,YU]
   refine Qak (by kernel_rfl) ?_ _
   have hset:=hBx8.set 0 (.slice pl I.length cl)
   exact⟨w4.heap.size,_,_,_,_,_,_,_,_,_,I,rfl,hset.cell (j:=0) rfl,QbE (Qag hIi (p:=⟨w4.heap.size,0,none⟩) (hBx.go hbo).lt _),hIp,hIl,hbw8.setCell (p:=⟨w4.heap.size,0,none⟩) (by show _≤w4.heap.size;omega) _⟩
 ·rintro a' w5 ⟨bx,v26,v27,v28,v29,v30,v31,v32,v33,iv,I,rfl,hbx,hIi,hIp,hIl,hb5⟩
  have hb5w:Below w.heap.size w w5:=HB3.out.trans ((HB4.out.trans (hb5.mono HB4.out.size)).mono HB3.out.size)
  have hX5:Blk 24 w5 w.heap.size [.int .i64 (N:Int),.slice p l.length c]:=(HX3.out.go HB4.out).go hb5
  have g0:=hX5.cell (j:=0) rfl
  have g1:=hX5.cell (j:=1) rfl
  have HB5:Hid (Below w.heap.size w w5):=hb5w
  have HBX:Hid (w5.cell? ⟨bx,0,none⟩=some iv):=hbx
  have HIi:Hid (Ints w5.heap.size w5 iv I):=hIi
  clear hb5 hb5w hX5 HX3 HB3 HN4 HB4 HG3 HG4 HJ2 n0 n1 hbx hIi HLr
  go_wp2
  refine wp_region_held_drew (S:=(fun w':World=>w'.cell? ⟨w.heap.size,0,none⟩=some (.int .i64 (N:Int))∧w'.cell? ⟨w.heap.size,1,none⟩=some (.slice p l.length c))) (by kernel_rfl) ⟨g0,g1⟩ (fun hHeld=>?_)
  try simp only [YP,YQ,YR,YS,YT,YU]
  refine tH 0 ?_
  try simp only [YS]
  refine tH 1 ?_
  refine tH 3 ?_
  refine tH 5 ?_
  refine wpAnyH_ready (rs:=[2]) (by kernel_rfl) (by simp) ?_
  refine AllReadyH.cons rfl (fun K hK=>?_) AllReadyH.nil
  go_simp
  have hbd:Below w5.heap.size w5 w5.drew:=Qaa YD 1
  have hsp:=Qjb N l HR.out 33 #[.pointer (some ⟨bx,0,none⟩)] (fun _ _=>by kernel_rfl) (.slice p l.length c) w5.drew (HL.out.go (HB5.out.trans (hbd.mono HB5.out.size))) (fun i _ W hW=>Qkc (i:Int) I hIp hIl iv bx W (Qad (hbd.trans hW) HBX.out) ((HIi.out.below (hbd.trans hW)).mono (hbd.trans hW).size))
  refine hsp.mono ?_
  rintro e w6 ⟨g,SD,rfl,hg,hSD,hSl,hS0,hb6⟩
  clear hsp
  have hb56:Below w5.heap.size w5 w6:=hbd.trans hb6
  refine hK.out _ _ ⟨Qad hb56 g0,Qad hb56 g1⟩ (fun hHeld6=>?_)
  clear hK K hHeld g0 g1
  have HB6:Hid (Below w.heap.size w w6):=HB5.out.trans (hb56.mono HB5.out.size)
  have hgw:w.heap.size≤g:=Nat.le_trans HB5.out.size hg
  clear hb56 hb6 hbd HBX HIi hg
  try simp only [Act.put,YS,YT,YU]
  refine wpAnyH_ready (rs:=[4]) (by kernel_rfl) (by simp) ?_
  refine AllReadyH.cons rfl (fun K hK=>?_) AllReadyH.nil
  go_simp
  refine (Qkj (N:Int) l hm1 HWt.out (.slice p l.length c) w6 (HL.out.go HB6.out)).mono ?_
  rintro e w7 ⟨rfl,hb7⟩
  refine hK.out _ _ ⟨Qad hb7 hHeld6.1,Qad hb7 hHeld6.2⟩ (fun hHeld7=>?_)
  clear hK K hHeld6
  have hfew:=Qfv HWt.out l.length YA
  have hwr:IntKind.i64.wrap (sumC l l.length-cost)=sumC l l.length-cost:=QaU _ (by omega) (by omega)
  have HB7:Hid (Below w.heap.size w w7):=HB6.out.trans (hb7.mono HB6.out.size)
  have HSD:Hid (Blk 4 w7 g (SD.map Value.bool)):=hSD.go hb7
  clear hb7 hfew hSD
  obtain⟨tot,htot⟩:∃ t,sumC l l.length=t:=⟨_,rfl⟩
  have HTOT:Hid (sumC l l.length=tot):=htot
  rw [htot] at hwr ⊢
  clear htot
  try simp only [Act.put,YS,YT,YU]
  refine tH 6 ?_
  try simp only [YS,YT,YU]
  refine tH 7 ?_
  refine tH 8 ?_
  refine tH 9 ?_
  refine wpAnyH_done (by kernel_rfl) ?_ _
  try simp only [YS,YT,YU]
  go_wp2
  try simp only [YP,YQ,YR,YS,YT,YU]
  refine bodyPost_ret (v:=.tuple #[.slice (some ⟨g,0,none⟩) N N,.int .i64 (tot-cost),.int .i64 0]) (by simp [results,Tryz.results16,go_sem]) rfl ?_
  exact⟨g,SD,by rw [HTOT.out],hgw,HSD.out,hSl,hS0,HB7.out⟩
theorem Qoq {N:Nat}{l:List Ed}(hR:RightG (N:Int) l)(h:Qcw (cAt N l N) l):∃ col:Int→Bool,∀ e∈l,col e.1≠col e.2.1:=by
 have hp:=(Qop hR).1 h
 refine⟨fun v=>decide ((walkW N l).depth.getD v.toNat 0 % 2=1),fun e he=>?_⟩
 have h1:=hp e he
 intro h2
 have h3:=decide_eq_decide.1 h2
 clear h2
 generalize (walkW N l).depth.getD e.1.toNat 0=a at *
 generalize (walkW N l).depth.getD e.2.1.toNat 0=b at *
 have h4:¬ (a % 2=b % 2):=h1
 by_cases h5:a % 2=1
 ·have:=h3.1 h5;omega
 ·have h6:¬ b % 2=1:=fun h=>h5 (h3.2 h)
  omega
theorem Qpc {L:List Ed}(h:∀ e∈L,0≤e.1∧0≤e.2.1∧0≤e.2.2):(L.map unE).map edE=L:=by
 rw [List.map_map]
 conv=>rhs;rw [← List.map_id L]
 refine List.map_congr_left fun e he=>?_
 obtain⟨h1,h2,h3⟩:=h e he
 refine Prod.ext ?_ (Prod.ext ?_ ?_)
 ·show ((e.1.toNat:Nat):Int)=e.1
  omega
 ·show ((e.2.1.toNat:Nat):Int)=e.2.1
  omega
 ·show ((e.2.2.toNat:Nat):Int)=e.2.2
  omega
theorem Ql6 {N:Nat}{l:List Ed}{r:List (List Int)}(hR:RightG (N:Int) l)(hS:SysR N l r)(hn:l.any negB=false):
  ∀ x∈dualL (facesL N l r) l,(0≤x.1∧x.1<((facesL N l r).length:Int))∧(0≤x.2.1∧x.2.1<((facesL N l r).length:Int))∧0≤x.2.2∧x.2.2≤2147483647:=by
 have hD:=Qa2 hR hS
 have hdr:∀ d∈Qah N l,0≤faceOf (facesL N l r) d∧faceOf (facesL N l r) d<((facesL N l r).length:Int):=fun d hd=>by
  obtain⟨f,hf,hdf⟩:=List.mem_flatten.1 ((hD.mem d).2 hd)
  obtain⟨i,hi,rfl⟩:=List.mem_iff_getElem.1 hf
  rw [QeJ hD.nodup hi hdf]
  omega
 intro x hx
 unfold dualL at hx
 obtain⟨e,he,rfl⟩:=List.mem_map.1 hx
 have h3:=hdr (e.1,e.2.1) ((Qbp hR).mem_iff.1 (List.mem_flatMap.2 ⟨e,he,List.mem_cons_self ..⟩))
 have h4:=hdr (e.2.1,e.1) ((Qbp hR).mem_iff.1 (List.mem_flatMap.2 ⟨e,he,List.mem_cons_of_mem _ (List.mem_cons_self ..)⟩))
 obtain⟨⟨_,_,_,_,_,h5,h6⟩,_⟩:=hR.each e he
 have h7:=List.any_eq_false.1 hn e he
 have h8:¬ e.2.2<0:=fun h=>h7 (by simp [negB,h])
 exact⟨h3,h4,by show 0≤e.2.2;omega,by show e.2.2≤_;omega⟩
theorem QoY (N:Nat)(l:List Ed)(hR:RightG (N:Int) l)(r:List (List Int))(hS:SysR N l r)(hn:l.any negB=false)(hF:(facesL N l r).length≤1048576){col:Int→Bool}(hc:∀ e∈l,col e.1≠col e.2.1)
  (W:World) (gv bv:Value) (hg:Edges W.heap.size W gv (dualL (facesL N l r) l)) (hb:Ints W.heap.size W bv (oddK ((facesL N l r).length:Int) (dualL (facesL N l r) l) (iotaI l.length l.length))) :
  Calls Tryz.prog 31 #[.agg #[.int .i64 ((facesL N l r).length:Int),gv],bv] W fun e w'=>JoinP W 0 e w':=by
 have hd:=Ql6 hR hS hn
 have hk:=QjW hR hS hn hF
 have hm:=hR.m1
 have hlen:=QbH (facesL N l r) l
 rw [QmU hR hS hc] at hb
 have e1:((dualL (facesL N l r) l).map unE).map edE=dualL (facesL N l r) l:=Qpc fun x hx=>⟨(hd x hx).1.1,(hd x hx).2.1.1,(hd x hx).2.2.1⟩
 rw [← e1] at hk hg
 refine (Qno (facesL N l r).length ((dualL (facesL N l r) l).map unE) hF hk (by rw [List.length_map,hlen];omega) (fun e he=>?_) (fun e he=>?_) gv bv W hg hb).mono ?_
 ·obtain⟨x,hx,rfl⟩:=List.mem_map.1 he
  obtain⟨h1,h2,_⟩:=hd x hx
  exact⟨by show x.1.toNat<_;omega,by show x.2.1.toNat<_;omega⟩
 ·obtain⟨x,hx,rfl⟩:=List.mem_map.1 he
  obtain⟨_,_,h3,h4⟩:=hd x hx
  show x.2.2.toNat≤_
  omega
 ·rintro e w' ⟨lv,rfl,ho,hbel⟩
  exact⟨lv,[],rfl,ho,List.Pairwise.nil,by simp,hbel⟩
theorem Qjv (N:Nat)(l:List Ed)(hR:RightG (N:Int) l)(r:List (List Int))(hS:SysR N l r)(hP:Qa5 (numsL N l r)=0)(hn:l.any negB=false)(hF:(facesL N l r).length≤1048576)(h2:Qcw (cAt N l N) l)
  (sv rv:Value) (w:World) (hl:Edges w.heap.size w sv l) (hr:Lsts w.heap.size w rv r) :
  Calls Tryz.prog 16 #[.agg #[.int .i64 (N:Int),sv],rv] w fun e w'=>∃ sd,e = .returned (.tuple #[sd,.int .i64 (sumC l l.length),.int .i64 0])∧Below w.heap.size w w':=by
 obtain⟨col,hc⟩:=Qoq hR h2
 have hw:∀ e∈l,-2147483648≤e.2.2∧e.2.2≤2147483648:=fun e he=>by
  obtain⟨⟨_,_,_,_,_,h5,h6⟩,_⟩:=hR.each e he
  omega
 refine (QiG N l hR r hS hP hn hw 0 (by omega) (by omega) (fun W gv bv h3 h4=>QoY N l hR r hS hn hF hc W gv bv h3 h4) sv rv w hl hr).mono ?_
 rintro e w' ⟨g,SD,rfl,_,_,_,_,hb⟩
 rw [Int.sub_zero]
 exact⟨_,rfl,hb⟩
def exW:List Ed:=[(0,1,1),(0,2,2),(1,2,3)]
def LZ:List Eg:=[(0,1,1),(1,0,2),(0,1,3)]
theorem Ql1:RightG ((3:Nat):Int) exW:=right_iff.1 (by decide)
theorem Qo6:SysR 3 exW exR:=by
 refine⟨rfl,fun v hv=>?_⟩
 match v,hv with
 | 0,_=>decide
 | 1,_=>decide
 | 2,_=>decide
theorem Ql3:facesL 3 exW exR=[[(0,1),(1,2),(2,0)],[(0,2),(2,1),(1,0)]]:=by kernel_rfl
theorem QnC:numsL 3 exW exR=[2]:=by kernel_rfl
theorem QiR:dualL (facesL 3 exW exR) exW=LZ.map edE:=by kernel_rfl
theorem Ql2:(facesL 3 exW exR).length=2:=by rw [Ql3];rfl
theorem Qo7:oddK 2 (LZ.map edE) (iotaI 3 3)=[0,1]:=by decide
theorem Qmp:∀ e∈LZ,e.1<2∧e.2.1<2:=by decide
theorem Qoj:∀ e∈LZ,e.2.2≤2147483647:=by decide
theorem QnQ:rgtW ((2:Nat):Int) (LZ.map edE)=0:=by decide
theorem Qpl:ConnT LZ 1 0:=⟨[1],1,(0,1,1),by simp [LZ],.inr ⟨rfl,rfl⟩,0,rfl,rfl,rfl⟩
theorem Qpk:∃ D,IsD LZ 1 2 D∧at' D 0=1:=⟨relN LZ (dist0 2 1) 2,QmJ (by omega) (QnG LZ (by omega)) Qmp Qoj,by decide⟩
theorem joinZ (W:World)(gv bv:Value)(hg:Edges W.heap.size W gv (LZ.map edE))(hb:Ints W.heap.size W bv [0,1]):Calls Tryz.prog 31 #[.agg #[.int .i64 2,gv],bv] W fun e w'=>JoinP W 1 e w':=by
 refine (Qnn 2 LZ 0 1 (by omega) (by omega) (by omega) QnQ (by decide) Qmp Qoj Qpl gv bv W hg hb).mono ?_
 rintro e w' ⟨lv,T,rfl,hl,ho,hr,_,hs,hbel⟩
 obtain⟨D,h1,h2⟩:=Qpk
 rw [hs D h1,h2]
 have hk:=QbY T T.length
 refine⟨lv,trueL T,rfl,ho,(rs_iff.1 hr).2,?_,hbel⟩
 show (trueK T T.length).length≤_
 rw [hl] at hk ⊢
 have:LZ.length=3:=rfl
 omega
theorem Qbf (w:World):Calls Tryz.prog 9 #[] w fun r w'=>r = .returned (.bool true)∧Below w.heap.size w w':=by
 have hmix:=mixed
 obtain⟨w1,hw1⟩:∃ W,w.alloc (.cells #[.int .i64 0,.int .i64 1,.int .i64 1,.int .i64 0,.int .i64 2,.int .i64 2,.int .i64 1,.int .i64 2,.int .i64 3] 50)=W:=⟨_,rfl⟩
 obtain⟨w2,hw2⟩:∃ W,w1.alloc (.cells #[.int .i64 3,.slice (some ⟨w.heap.size,0,none⟩) 3 3] 24)=W:=⟨_,rfl⟩
 obtain⟨w3,hw3⟩:∃ W,w2.alloc (.cells #[.int .i64 1,.int .i64 2] 3)=W:=⟨_,rfl⟩
 obtain⟨w4,hw4⟩:∃ W,w3.alloc (.cells #[.int .i64 2,.int .i64 0] 3)=W:=⟨_,rfl⟩
 obtain⟨w5,hw5⟩:∃ W,w4.alloc (.cells #[.int .i64 0,.int .i64 1] 3)=W:=⟨_,rfl⟩
 obtain⟨w6,hw6⟩:∃ W,w5.alloc (.cells #[.slice (some ⟨w.heap.size+1+1,0,none⟩) 2 2,.slice (some ⟨w.heap.size+1+1+1,0,none⟩) 2 2,.slice (some ⟨w.heap.size+1+1+1+1,0,none⟩) 2 2] 27)=W:=⟨_,rfl⟩
 have hs1:w1.heap.size=w.heap.size+1:=by rw [← hw1];simp
 have hs2:w2.heap.size=w.heap.size+1+1:=by rw [← hw2];simp [hs1]
 have hs3:w3.heap.size=w.heap.size+1+1+1:=by rw [← hw3];simp [hs2]
 have hs4:w4.heap.size=w.heap.size+1+1+1+1:=by rw [← hw4];simp [hs3]
 have hs5:w5.heap.size=w.heap.size+1+1+1+1+1:=by rw [← hw5];simp [hs4]
 have hb1:Below w.heap.size w w1:=by rw [← hw1];exact YD.alloc YA _
 have hb2:Below w1.heap.size w1 w2:=by rw [← hw2];exact YD.alloc YA _
 have hb3:Below w2.heap.size w2 w3:=by rw [← hw3];exact YD.alloc YA _
 have hb4:Below w3.heap.size w3 w4:=by rw [← hw4];exact YD.alloc YA _
 have hb5:Below w4.heap.size w4 w5:=by rw [← hw5];exact YD.alloc YA _
 have hb6:Below w5.heap.size w5 w6:=by rw [← hw6];exact YD.alloc YA _
 have hE1:Blk 50 w1 w.heap.size (flat exW):=by rw [← hw1];exact heap_alloc_new w _
 have hG2:Blk 24 w2 (w.heap.size+1) [.int .i64 3,.slice (some ⟨w.heap.size,0,none⟩) 3 3]:=by rw [← hs1,← hw2];exact heap_alloc_new w1 _
 have h3:Blk 3 w3 (w.heap.size+1+1) (([1,2]:List Int).map (Value.int .i64)):=by rw [← hs2,← hw3];exact heap_alloc_new w2 _
 have h4:Blk 3 w4 (w.heap.size+1+1+1) (([2,0]:List Int).map (Value.int .i64)):=by rw [← hs3,← hw4];exact heap_alloc_new w3 _
 have h5:Blk 3 w5 (w.heap.size+1+1+1+1) (([0,1]:List Int).map (Value.int .i64)):=by rw [← hs4,← hw5];exact heap_alloc_new w4 _
 have h6:Blk 27 w6 (w.heap.size+1+1+1+1+1) [.slice (some ⟨w.heap.size+1+1,0,none⟩) 2 2,.slice (some ⟨w.heap.size+1+1+1,0,none⟩) 2 2,.slice (some ⟨w.heap.size+1+1+1+1,0,none⟩) 2 2]:=by rw [← hs5,← hw6];exact heap_alloc_new w5 _
 have hb26:Below w2.heap.size w2 w6:=((hb3.trans (hb4.mono hb3.size)).trans (hb5.mono (Nat.le_trans hb3.size hb4.size))).trans (hb6.mono (Nat.le_trans (Nat.le_trans hb3.size hb4.size) hb5.size))
 have hb16:Below w1.heap.size w1 w6:=hb2.trans (hb26.mono hb2.size)
 have hE6:Edges w6.heap.size w6 (.slice (some ⟨w.heap.size,0,none⟩) 3 3) exW:=hE1.edges.go hb16
 have i1:=((h3.go hb4).go hb5).go hb6
 have i2:=(h4.go hb5).go hb6
 have i3:=h5.go hb6
 have hLs:Lsts w6.heap.size w6 (.slice (some ⟨w.heap.size+1+1+1+1+1,0,none⟩) 3 3) exR:=by
  refine .inr ⟨_,0,3,rfl,h6.lt,YA,fun j x hx=>?_⟩
  match j,hx with
  | 0,hx=>cases hx;exact⟨_,h6.cell (j:=0) rfl,i1.ints⟩
  | 1,hx=>cases hx;exact⟨_,h6.cell (j:=1) rfl,i2.ints⟩
  | 2,hx=>cases hx;exact⟨_,h6.cell (j:=2) rfl,i3.ints⟩
  | j+3,hx=>exact absurd (YE hx).1 (by simp [exR])
 have hbw6:Below w.heap.size w w6:=hb1.trans (hb16.mono hb1.size)
 have hmax:=QiG 3 exW Ql1 exR Qo6 (by rw [QnC];rfl) (by decide) (by decide) 1 (by omega) (by omega) (fun W gv bv h1 h2=>by
  rw [QiR] at h1
  rw [QiR,Ql2] at h2
  rw [Ql2]
  have h3:Ints W.heap.size W bv [0,1]:=by
   have e:oddK ((2:Nat):Int) (LZ.map edE) (iotaI exW.length exW.length)=[0,1]:=Qo7
   rw [e] at h2
   exact h2
  exact joinZ W gv bv h1 h3) (.slice (some ⟨w.heap.size,0,none⟩) 3 3) (.slice (some ⟨w.heap.size+1+1+1+1+1,0,none⟩) 3 3) w6 hE6 hLs
 have HB:Hid (Below w.heap.size w w6):=hbw6
 rw [show sumC exW exW.length-1=5 from by decide] at hmax
 clear hs1 hs2 hs3 hs4 hs5 hb1 hb2 hb3 hb4 hb5 hb6 hE1 hG2 h3 h4 h5 h6 hb26 hb16 hE6 i1 i2 i3 hLs hbw6
 subst hw6
 subst hw5
 subst hw4
 subst hw3
 subst hw2
 subst hw1
 go_enter Tryz.func9,Tryz.ntmps9
 go_wp2_with fail
 refine hmax.mono ?_
 rintro e w7 ⟨g,SD,rfl,hg,hSD,hSl,hS0,hb7⟩
 clear hmax
 have s0:=hSD.bcell (v:=0) (by omega)
 rw [hS0] at s0
 have HB7:Hid (Below w.heap.size w w7):=HB.out.trans (hb7.mono HB.out.size)
 clear hb7 hSD hSl hS0 HB hg
 go_wp2
 go_ret
 exact⟨rfl,HB7.out⟩
end Go.Proofs.YtalflecmadacaaaGreat
