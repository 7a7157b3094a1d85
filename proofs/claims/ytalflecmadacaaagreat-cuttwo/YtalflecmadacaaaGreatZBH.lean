import Derived.Sort.OwnSortedInts
import Derived.Test.YtalflecmadacaaaGreatShelfS
import Derived.Test.YtalflecmadacaaaGreatZAK
import Derived.Test.YtalflecmadacaaaGreatZAM
import Derived.Test.YtalflecmadacaaaGreatZAN
import Derived.Test.YtalflecmadacaaaGreatZAJ
import Derived.Test.YtalflecmadacaaaGreatZAF
import Derived.Test.YtalflecmadacaaaGreatZAO
set_option maxRecDepth 100000
set_option maxHeartbeats 8000000
namespace Go.Proofs.YtalflecmadacaaaGreat
open Go Go.Proofs Go.RowKit
def sortL (L:List Int):List Int:=L.mergeSort fun x y=>decide (x≤y)
theorem Qb0 (L:List Int):(sortL L).length=L.length:=by unfold sortL;simp
theorem Qe0 (L:List Int):(sortL L).Perm L:=List.mergeSort_perm _ _
theorem Qgl {L K:List Int}(hK:K.Pairwise (· < ·)):sortL L=K↔L.Perm K:=by
 constructor
 ·intro h
  rw [← h]
  exact (Qe0 L).symm
 ·intro h
  have h1:(sortL L).Pairwise (fun x y=>decide (x≤y)=true):=List.pairwise_mergeSort (fun a b c h1 h2=>by simp at *;omega) (fun a b=>by simp;omega) L
  refine List.Perm.eq_of_pairwise (le:=fun x y=>decide (x≤y)=true) (fun a b _ _ h1 h2=>by simp at *;omega) h1 (hK.imp fun {a b} hab=>by simp;omega) ((Qe0 L).trans h)
theorem Qds {n:Nat}{w:World}{b off c:Nat}{L:List Int}(h:Ints n w (.slice (some ⟨b,off,none⟩) L.length c) L):∀ j,j<L.length→w.cell? ⟨b,off+j,none⟩=some (.int .i64 (L.getD j 0)):=fun j hj=>by
 obtain⟨b',off',e,_,_,hc⟩:=h.open hj
 simp only [Option.some.injEq,Addr.mk.injEq,and_true] at e
 obtain⟨rfl,rfl⟩:=e
 rw [hc w YD j hj,YC,YB hj]
 rfl
theorem QhU (L K:List Int)(hK:K.length≤4194304)(sl sk:Value)(w:World)(hl:Ints w.heap.size w sl L)(hk:Ints w.heap.size w sk K):
  Calls Tryz.prog 121 #[sl,sk] w fun e w'=>e = .returned (.bool (decide (sortL L=K)))∧Below w.heap.size w w':=by
 obtain⟨p,c,rfl⟩:=hl.len
 obtain⟨pk,ck,rfl⟩:=hk.len
 by_cases hlen:L.length=K.length
 ·have hL:L.length≤4194304:=by omega
  have hlen':((L.length:Int) != (K.length:Int))=false:=by rw [hlen];simp
  by_cases hz:L.length=0
  ·have hL0:L=[]:=List.eq_nil_of_length_eq_zero hz
   have hK0:K=[]:=List.eq_nil_of_length_eq_zero (by omega)
   subst hL0
   subst hK0
   have hE:decide (sortL []=[])=true:=by simp [sortL]
   rw [hE]
   have hcl:Calls Tryz.prog 152 #[.slice p 0 c] w fun e w'=>∃ q k,e = .returned (.slice q 0 k)∧Below w.heap.size w w':=by
    cases p with
    | none=>exact (Tryz.slices_Clone_int_nil 0 c w).mono fun e w' ⟨h1,h2⟩=>⟨none,0,h1,by rw [h2];exact YD⟩
    | some a=>
     refine (Tryz.slices_Clone_int_zero a c w).mono ?_
     rintro e w' ⟨v',h1,h2,_,h3⟩
     obtain⟨q,k,rfl⟩:=Qaf h2
     exact⟨q,k,h1,h3⟩
   clear hE hlen hz
   go_enter Tryz.func121,Tryz.ntmps121
   go_wp2_with fail
   refine hcl.mono ?_
   rintro e w2 ⟨q,k,rfl,hb2⟩
   go_wp2_with fail
   refine (Tryz.slices_Sort_int_none q k w2).mono ?_
   rintro e w3 ⟨rfl,rfl⟩
   go_wp2_with fail
   refine (Tryz.slices_Equal_int_empty q pk k 0 ck w3 (by omega)).mono ?_
   rintro e w4 ⟨rfl,rfl⟩
   go_wp2
   go_ret
   exact⟨rfl,hb2⟩
  ·obtain⟨b,off,rfl,hbb,hcap,_⟩:=hl.open (show 0<L.length by omega)
   obtain⟨bk,offk,rfl,hbk,hcapk,_⟩:=hk.open (show 0<K.length by omega)
   have hcl:=Tryz.slices_Clone_int b off L.length c L w YA (by omega) (Qds hl)
   rw [List.take_length] at hcl
   have HLEN:Hid _:=hlen
   have hpos:0<L.length:=by omega
   clear hlen hz
   go_enter Tryz.func121,Tryz.ntmps121
   go_wp2_with fail
   refine hcl.mono ?_
   clear hcl
   rintro e w2 ⟨v2,rfl,hO2,hn2,hb2⟩
   rcases hO2.2 with ⟨h0,_⟩ | ⟨g2,cap2,cur2,rfl,hbase,hblk,h1,h2,h3,h4⟩
   ·exact absurd h0 hn2
   have hgl:=(Array.getElem?_eq_some_iff.1 hblk).1
   have hso:=Tryz.slices_Sort_int g2 0 cap2 L w2 (holds_of_blockI hblk (by simpa using h4)) hgl (by omega)
   go_wp2_with fail
   refine hso.mono ?_
   clear hso
   rintro e w3 ⟨rfl,nn,os,hw3⟩
   have hO3:w3.ownsRow w.heap.size 3 1 (.slice (some ⟨g2,0,none⟩) L.length cap2) L.length ((sortL L).map (Value.int .i64)):=by
    rw [hw3]
    exact ownsRow_sortedI (ss:=L) (ts:=sortL L) (Qb0 L) hbase hblk h1 h2 h3
   have hg3:w2.grownBy w3 (some g2):=by
    rw [hw3]
    exact grownBy_sortedI _
   have hb3:Below w.heap.size w w3:=hb2.grown hg3 hb2.size (fun q e=>by cases e;exact hbase)
   have hI3:Ints w3.heap.size w3 (.slice (some ⟨g2,0,none⟩) (sortL L).length cap2) (sortL L):=by
    refine Qjr (base:=w.heap.size) ?_
    rw [Qb0]
    exact hO3
   have hk3:=hk.go hb3
   have heq:=Tryz.slices_Equal_int g2 0 L.length cap2 bk offk K.length ck (sortL L) K _ (by rw [Qb0];exact YA) YA (by omega) (by omega) (Qds hI3) (Qds hk3)
   have e1:(sortL L).take L.length=sortL L:=List.take_of_length_le (by rw [Qb0];exact YA)
   rw [e1,List.take_length] at heq
   have hbe:(sortL L==K)=decide (sortL L=K):=by
    by_cases h:sortL L=K
    ·rw [decide_eq_true h,beq_iff_eq];exact h
    ·rw [decide_eq_false h,beq_eq_false_iff_ne];exact h
   rw [hbe] at heq
   clear e1 hbe hI3 hk3 hO3 hg3 hO2 hblk h1 h2 h3 h4 hw3
   have HB3:Hid _:=hb3
   clear hb3
   obtain⟨res,HRES⟩:∃ res,Hid (decide (sortL L=K)=res):=⟨_,rfl⟩
   rw [HRES.out] at heq
   go_wp2_with fail
   refine heq.mono ?_
   rintro e w4 ⟨rfl,q,rfl⟩
   go_wp2
   go_ret
   exact⟨by rw [HRES.out];rfl,Qaa HB3.out q⟩
 ·have hlen':((L.length:Int) != (K.length:Int))=true:=by
   rw [bne_iff_ne];omega
  have hE:decide (sortL L=K)=false:=decide_eq_false fun e=>hlen (by rw [← e,Qb0])
  rw [hE]
  clear hE hlen
  go_enter Tryz.func121,Tryz.ntmps121
  go_wp2
  go_ret
  exact⟨rfl,YD⟩
theorem Qoz {r K:List (List Int)}{j:Nat}(h1:j<r.length)(h2:j<K.length)(h:sortL r[j]≠K[j]):decide (r.map sortL=K)=false:=decide_eq_false fun e=>h (by
 have:=congrArg (fun L=>L[j]?) e
 simp only [YH,YB h1,YB h2,Option.map_some,Option.some.injEq] at this
 exact this)
theorem QoA {r K:List (List Int)}(hl:r.length=K.length)(h:∀ (i:Nat) (h1:i<r.length) (h2:i<K.length),sortL r[i]=K[i]):decide (r.map sortL=K)=true:=decide_eq_true (by
 refine List.ext_getElem (by simpa using hl) fun i h1 h2=>?_
 rw [List.getElem_map]
 exact h i (by simpa using h1) h2)
theorem Qo8 (r K:List (List Int))(hK:∀ x∈K,x.length≤4194304)(hKl:K.length≤4194304)(sr sk:Value)(w:World)(hr:Lsts w.heap.size w sr r)(hk:Lsts w.heap.size w sk K):
  Calls Tryz.prog 119 #[sr,sk,.func (.func 121) #[] #[]] w fun e w'=>e = .returned (.bool (decide (r.map sortL=K)))∧Below w.heap.size w w':=by
 have hent:∀ (args:Array Value) (W:World),(callFunc 121 args).run Tryz.prog W = .ok (.enter 121 args) W:=fun args W=>by kernel_rfl
 obtain⟨p,c,rfl⟩:=hr.len
 obtain⟨pk,ck,rfl⟩:=hk.len
 by_cases hlen:r.length=K.length
 ·have hlen':((r.length:Int) != (K.length:Int))=false:=by rw [hlen];simp
  have HLEN:Hid _:=hlen
  have HR0:Hid (Lsts w.heap.size w (.slice p r.length c) r):=hr
  have HK0:Hid (Lsts w.heap.size w (.slice pk K.length ck) K):=hk
  have HK:Hid _:=hK
  have hrl:r.length≤4194304:=by omega
  clear hlen hr hk hK
  go_enter Tryz.func119,Tryz.ntmps119
  go_wp2
  go_loopw [17] (fun iv wr=>∃ j:Nat,j≤r.length∧iv = .int .i64 j∧Hid (∀ (i:Nat) (h1:i<r.length) (h2:i<K.length),i<j→sortL r[i]=K[i])∧Below w.heap.size w wr) (fun i _=>r.length-(intOf i).toNat)
  case atStart=>exact⟨0,YN,rfl,fun i _ _ h=>by omega,YD⟩
  case round=>
   obtain⟨j,hj,rfl,HS,hb⟩:=hrel
   by_cases hlt:j<r.length
   ·have hjl:(j:Int)<(r.length:Int):=by omega
    have hlk:j<K.length:=by have:=HLEN.out;omega
    have hjk:(j:Int)<(K.length:Int):=by omega
    obtain⟨b,off,rfl,hbb,hcap,px,cx,hIx,c0⟩:=(HR0.out.below hb).cellAt hlt
    obtain⟨bk,offk,rfl,hbk,hcapk,pk',ck',hIk,k0⟩:=(HK0.out.below hb).cellAt hlk
    have hc:=QhU r[j] K[j] (HK.out _ (YG hlk)) _ _ wr (hIx.mono hb.size) (hIk.mono hb.size)
    by_cases he:sortL r[j]=K[j]
    ·rw [decide_eq_true he] at hc
     have HS2:Hid (∀ (i:Nat) (h1:i<r.length) (h2:i<K.length),i<j+1→sortL r[i]=K[i]):=fun i h1 h2 h=>by
      by_cases e:i=j
      ·subst e;exact he
      ·exact HS.out i h1 h2 (by omega)
     have HLT:Hid (j<r.length):=hlt
     clear he HS hIx hIk
     generalize r[j]=X at c0 hc
     generalize K[j]=Y at k0 hc
     clear hlt hlk
     go_wp2_with fail
     refine hc.mono ?_
     clear hc
     rintro e w2 ⟨rfl,hb2⟩
     have HB2:Hid _:=hb.trans (hb2.mono hb.size)
     clear hb2
     go_wp2
     exact⟨⟨j+1,HLT.out,by go_num,HS2.out,HB2.out⟩,by have:=HLT.out;simp [intOf];omega⟩
    ·rw [decide_eq_false he] at hc
     have HE:Hid _:=Qoz hlt hlk he
     have HLT:Hid (j<r.length):=hlt
     clear he HS hIx hIk
     generalize r[j]=X at c0 hc
     generalize K[j]=Y at k0 hc
     clear hlt hlk
     go_wp2_with fail
     refine hc.mono ?_
     clear hc
     rintro e w2 ⟨rfl,hb2⟩
     have HB2:Hid _:=hb.trans (hb2.mono hb.size)
     clear hb2
     go_wp2
     go_ret
     exact⟨by rw [HE.out];rfl,HB2.out⟩
   ·obtain rfl:j=r.length:=by omega
    have HE:Hid _:=QoA HLEN.out fun i h1 h2=>HS.out i h1 h2 h1
    clear HS
    go_wp2
    go_ret
    exact⟨by rw [HE.out];rfl,hb⟩
 ·have hlen':((r.length:Int) != (K.length:Int))=true:=by
   rw [bne_iff_ne];omega
  have hE:decide (r.map sortL=K)=false:=decide_eq_false fun e=>hlen (by rw [← e];simp)
  rw [hE]
  clear hE hlen
  go_enter Tryz.func119,Tryz.ntmps119
  go_wp2
  go_ret
  exact⟨rfl,YD⟩
theorem Qd1 {N:Nat}{l:List Ed}{r:List (List Int)}(hR:RightG (N:Int) l):r.map sortL=nearL N l↔SysR N l r:=by
 constructor
 ·intro h
  have hl:r.length=N:=by have:=congrArg List.length h;rw [QaA] at this;simpa using this
  refine⟨hl,fun v hv=>?_⟩
  have h1:=congrArg (fun L=>L[v]?) h
  simp only [YH,QcW hv,YB (show v<r.length by omega),Option.map_some,Option.some.injEq] at h1
  rw [YC,YB (show v<r.length by omega)]
  exact (Qgl (Qco hR _)).1 h1
 ·intro h
  refine List.ext_getElem (by rw [QaA];simpa using h.len) fun i h1 h2=>?_
  rw [QaA] at h2
  have h3:=h.perm i h2
  have h4:i<r.length:=by rw [h.len];exact h2
  rw [YC,YB h4] at h3
  have h5:=QcW (l:=l) h2
  rw [YB (by rw [QaA];exact h2),Option.some.injEq] at h5
  rw [List.getElem_map,h5]
  exact (Qgl (Qco hR _)).2 h3
def sysK (n:Int)(l:List Ed)(r:List (List Int)):Int:=if rightK n l=0 then (if r.map sortL=nearL n.toNat l then 0 else 12) else 1
theorem Qd2 {N:Nat}{l:List Ed}{r:List (List Int)}(hR:RightG (N:Int) l)(hS:SysR N l r):sysK (N:Int) l r=0:=by
 unfold sysK
 rw [if_pos (right_iff.2 hR)]
 exact if_pos ((Qd1 hR).2 hS)
theorem Qft {N:Nat}{l:List Ed}{r:List (List Int)}(hR:RightG (N:Int) l)(hS:¬ SysR N l r):sysK (N:Int) l r=12:=by
 unfold sysK
 rw [if_pos (right_iff.2 hR)]
 exact if_neg fun h=>hS ((Qd1 hR).1 h)
theorem QdC (n:Int)(l:List Ed)(r:List (List Int))(sv rv:Value)(w:World)(hl:Edges w.heap.size w sv l)(hr:Lsts w.heap.size w rv r):
  Calls Tryz.prog 102 #[.agg #[.int .i64 n,sv],rv] w fun e w'=>e = .returned (.int .i64 (sysK n l r))∧Below w.heap.size w w':=by
 have hgA:Grew w (w.alloc (.cells #[.int .i64 n,sv] 24)):=(Grew.refl w).alloc _
 have hX:Blk 24 (w.alloc (.cells #[.int .i64 n,sv] 24)) w.heap.size [.int .i64 n,sv]:=heap_alloc_new w _
 have q0:=hX.cell (j:=0) rfl
 have q1:=hX.cell (j:=1) rfl
 have hrc:=Qbg n l sv _ (hl.go hgA.below)
 have HX:Hid (Blk 24 (w.alloc (.cells #[.int .i64 n,sv] 24)) w.heap.size [.int .i64 n,sv]):=hX
 have HL:Hid (Edges w.heap.size w sv l):=hl
 have HR0:Hid (Lsts w.heap.size w rv r):=hr
 have HBA:Hid _:=hgA.below
 clear hX hl hr hgA
 go_enter Tryz.func102,Tryz.ntmps102
 go_wp2_with fail
 generalize w.alloc (.cells #[.int .i64 n,sv] 24)=w1 at *
 refine hrc.mono ?_
 clear hrc
 rintro e w2 ⟨rfl,hg2⟩
 have hX2:=HX.out.go hg2.below
 have y0:=hX2.cell (j:=0) rfl
 have y1:=hX2.cell (j:=1) rfl
 have HB2:Hid (Below w.heap.size w w2):=HBA.out.trans (hg2.below.mono HBA.out.size)
 by_cases hk:rightK n l=0
 ·have hR:=right_iff.1 hk
  obtain⟨N,rfl⟩:∃ N:Nat,n=(N:Int):=⟨n.toNat,by have:=hR.n0;omega⟩
  have hne:=Qm9 N l hR sv w2 (HL.out.go HB2.out)
  have hn1:=hR.n1
  have hm1:=hR.m1
  rw [hk]
  have HR:Hid _:=hR
  clear hk hX2 hR q0 q1
  go_wp2_with fail
  refine hne.mono ?_
  clear hne
  rintro e w3 ⟨nv,rfl,hN3,hb3⟩
  have HB3:Hid (Below w.heap.size w w3):=HB2.out.trans (hb3.mono HB2.out.size)
  have heq:=Qo8 r (nearL N l) (fun x hx=>by
   obtain⟨v,hv,rfl⟩:=List.mem_map.1 hx
   exact Nat.le_trans (QaO _ _) hm1) (by rw [QaA];omega) rv nv w3 (HR0.out.go HB3.out) hN3
  clear y0 y1 hb3 hN3
  by_cases hS:SysR N l r
  ·rw [decide_eq_true ((Qd1 HR.out).2 hS)] at heq
   have HE:Hid _:=Qd2 HR.out hS
   clear hS
   go_wp2_with fail
   refine heq.mono ?_
   clear heq
   rintro e w4 ⟨rfl,hb4⟩
   go_wp2
   go_ret
   exact⟨by rw [HE.out];rfl,HB3.out.trans (hb4.mono HB3.out.size)⟩
  ·rw [decide_eq_false fun e=>hS ((Qd1 HR.out).1 e)] at heq
   have HE:Hid (sysK (N:Int) l r=12):=Qft HR.out hS
   clear hS
   go_wp2_with fail
   refine heq.mono ?_
   clear heq
   rintro e w4 ⟨rfl,hb4⟩
   go_wp2
   go_ret
   exact⟨by rw [HE.out];rfl,HB3.out.trans (hb4.mono HB3.out.size)⟩
 ·have HE:Hid (sysK n l r=1):=if_neg hk
  generalize rightK n l=k at *
  go_wp2
  go_ret
  exact⟨by rw [HE.out];rfl,HB2.out⟩
def facesL (N:Nat)(l:List Ed)(r:List (List Int)):List (List Dt):=(Qae (nxD r) (2*l.length+1) (Qah N l) (Qah N l).length).1
theorem QlY (N:Nat)(l:List Ed)(hR:RightG (N:Int) l)(r:List (List Int))(hS:SysR N l r)(sv rv:Value)(w:World)(hl:Edges w.heap.size w sv l)(hr:Lsts w.heap.size w rv r):
  Calls Tryz.prog 81 #[.agg #[.int .i64 (N:Int),sv],rv] w fun e w'=>∃ lv svs,e = .returned (.tuple #[lv,.int .i64 0])∧GrpD w.heap.size lv svs (facesL N l r) w'∧Below w.heap.size w w':=by
 have hbA:Below w.heap.size w (w.alloc (.cells #[.int .i64 (N:Int),sv] 24)):=YD.alloc YA _
 have hX:Blk 24 (w.alloc (.cells #[.int .i64 (N:Int),sv] 24)) w.heap.size [.int .i64 (N:Int),sv]:=heap_alloc_new w _
 have q0:=hX.cell (j:=0) rfl
 have q1:=hX.cell (j:=1) rfl
 have hrc:=QdC (N:Int) l r sv rv _ (hl.go hbA) (hr.go hbA)
 rw [Qd2 hR hS] at hrc
 have hent:∀ (args:Array Value) (W:World),(callFunc 106 args).run Tryz.prog W = .ok (.enter 106 args) W:=fun args W=>by kernel_rfl
 have hgr:=fun W h1 h2 fb (hfb:fb<W.heap.size) h3=>QdK N l hR r hS 106 #[.pointer (some ⟨fb,0,none⟩)] hent (fun fs bs W'=>∃ lv svs,IF W W.heap.size fb fs bs W' lv svs) sv rv W h1 h2 h3 (fun fs bs A B ⟨lv,svs,h⟩ hSt=>⟨lv,svs,h.still hfb hSt⟩) (QgZ W W.heap.size fb hfb _)
 have HX:Hid (Blk 24 (w.alloc (.cells #[.int .i64 (N:Int),sv] 24)) w.heap.size [.int .i64 (N:Int),sv]):=hX
 have HL:Hid (Edges w.heap.size w sv l):=hl
 have HR0:Hid (Lsts w.heap.size w rv r):=hr
 have HBA:Hid _:=hbA
 clear hX hl hr hbA hR hS
 have HGR:Hid _:=hgr
 clear hgr
 go_enter Tryz.func81,Tryz.ntmps81
 go_wp2_with fail
 generalize w.alloc (.cells #[.int .i64 (N:Int),sv] 24)=w1 at *
 refine hrc.mono ?_
 clear hrc
 rintro e w2 ⟨rfl,hb2⟩
 have hX2:=HX.out.go hb2
 have hB2:Below w.heap.size w w2:=HBA.out.trans (hb2.mono HBA.out.size)
 have hbB:Below w2.heap.size w2 (w2.alloc (.cells #[.slice none 0 0] 75)):=YD.alloc YA _
 have hV:Blk 75 (w2.alloc (.cells #[.slice none 0 0] 75)) w2.heap.size [.slice none 0 0]:=heap_alloc_new w2 _
 have hX3:=hX2.go hbB
 have y0:=hX3.cell (j:=0) rfl
 have y1:=hX3.cell (j:=1) rfl
 have hB3:=hB2.trans (hbB.mono hB2.size)
 have hs3:(w2.alloc (.cells #[.slice none 0 0] 75)).heap.size=w2.heap.size+1:=by simp
 have hg:=HGR.out (w2.alloc (.cells #[.slice none 0 0] 75)) (HL.out.go hB3) (HR0.out.go hB3) w2.heap.size (by omega) ⟨_,_,GrpD.start _ _,hV,fun q hq=>by simp [Value.ownBlock] at hq,fun sv hs=>by simp at hs,rfl,rfl,rfl,YA,fun q _ _=>rfl,YA⟩
 have HB2:Hid (Below w.heap.size w w2):=hB2
 have HB3:Hid (Below w.heap.size w (w2.alloc (.cells #[.slice none 0 0] 75))):=hB3
 have HS3:Hid _:=hs3
 clear hX2 hX3 hV hB2 hbB hB3 hb2 HGR HX q0 q1 hs3
 go_wp2_with fail
 refine hg.mono ?_
 clear hg
 rintro e w4 ⟨rfl,bs,lv,svs,hIF⟩
 have z0:=hIF.var.cell (j:=0) rfl
 obtain⟨pl,cl,rfl⟩:=Qaf hIF.grp.own
 have HF:Hid (∃ lv svs',Value.slice pl svs.length cl=lv∧GrpD w.heap.size lv svs' (facesL N l r) w4∧Below w.heap.size w w4):=by
  have hs:=HS3.out
  have h2:=HB2.out.size
  refine⟨_,svs,rfl,hIF.grp.base (by omega),?_⟩
  have h3:=HB3.out
  exact⟨hIF.os.trans h3.os,hIF.tape.trans h3.tape,hIF.output.trans h3.output,by have:=hIF.size;omega,fun q hq=>(hIF.low q (by omega) (by omega)).trans (h3.block q hq)⟩
 clear hIF y0 y1
 go_wp2
 refine bodyPost_ret (results_tmp2 rfl _ _ _) rfl ?_
 obtain⟨lv,svs',e,h1,h2⟩:=HF.out
 exact⟨lv,svs',by rw [← e];rfl,h1,h2⟩
def compC (N:Nat)(l:List Ed):List (List Int):=rcAt (labAt N l N) N N
theorem Qgq {N:Nat}{l:List Ed}(hR:RightG (N:Int) l):Qg8 (walkW N l).root:=by
 rw [Qcz hR]
 intro x hx
 obtain⟨v,hv,rfl⟩:=List.getElem_of_mem hx
 have hvN:v<N:=by rw [QaB] at hv;exact hv
 obtain⟨y,hy,hyN,_⟩:=Qa0 (Qao hR) hvN
 have e:(labAt N l N).getD v 0=(labAt N l N)[v]:=by rw [YC,YB hv];rfl
 rw [← e,hy,QaB]
 omega
theorem QbT {N:Nat}{l:List Ed}(hR:RightG (N:Int) l):CompsOK N (compC N l):=by
 have hL:=QgL (Qao hR)
 have hmm:∀ {r:Nat} {v:Int},v∈memAt (labAt N l N) r N→∃ u:Nat,v=(u:Int)∧u<N:=fun {r v} h=>by
  unfold memAt at h
  obtain⟨u,hu,rfl⟩:=List.mem_map.1 h
  exact⟨u,rfl,List.mem_range.1 (List.mem_filter.1 hu).1⟩
 refine⟨QfA _ _ _,fun hp=>?_,fun x hx=>?_,fun x hx=>?_,fun x hx v hv=>?_⟩
 ·obtain⟨x,h1,h2,h3⟩:=hL 0 (by rw [QaB];exact hp)
  have hx0:x=0:=by omega
  subst hx0
  have hm:0∈QaN (labAt N l N) N:=rootsN_mem.2 ⟨hp,h1⟩
  unfold compC
  rw [Qce,List.length_map]
  exact List.length_pos_of_mem hm
 all_goals
  unfold compC at hx
  rw [Qce] at hx
  obtain⟨r,hr,rfl⟩:=List.mem_map.1 hx
  obtain⟨h1,h2⟩:=rootsN_mem.1 hr
 ·have:(r:Int)∈memAt (labAt N l N) r N:=by
   unfold memAt
   refine List.mem_map.2 ⟨r,List.mem_filter.2 ⟨List.mem_range.2 h1,?_⟩,rfl⟩
   simp only [Bool.and_eq_true,decide_eq_true_eq]
   exact⟨YA,h2⟩
  intro e
  rw [e] at this
  simp at this
 ·unfold memAt
  rw [List.length_map]
  refine Nat.le_trans (List.length_filter_le _ _) ?_
  simp
 ·exact hmm hv
theorem Qmd (N:Nat)(l:List Ed)(hR:RightG (N:Int) l)(sv:Value)(W:World)(hl:Edges W.heap.size W sv l):
  Calls Tryz.prog 122 #[.agg #[.int .i64 (N:Int),sv]] W fun e w'=>∃ lv,e = .returned lv∧Lsts w'.heap.size w' lv (compC N l)∧Below W.heap.size W w':=by
 refine (QeU N l hR (Qgq hR) (Qmt hR).lenR sv W hl).mono ?_
 rintro e w' ⟨lv,svs,h0,rfl,hG,hb⟩
 rw [QdX hR] at hG
 exact⟨lv,rfl,hG.lsts,hb⟩
def numsL (N:Nat)(l:List Ed)(r:List (List Int)):List Int:=numsM N l r (compC N l) (facesL N l r)
theorem Qen (N:Nat)(l:List Ed)(r:List (List Int)):(numsL N l r).length=(compC N l).length:=by
 unfold numsL numsM
 rw [QfN,QhQ,Qdp]
theorem Qm1 (N:Nat)(l:List Ed)(hR:RightG (N:Int) l)(r:List (List Int))(hS:SysR N l r)(sv rv:Value)(w:World)(hl:Edges w.heap.size w sv l)(hr:Lsts w.heap.size w rv r):
  Calls Tryz.prog 103 #[.agg #[.int .i64 (N:Int),sv],rv] w fun e w'=>∃ lv,e = .returned lv∧Ints w'.heap.size w' lv (numsL N l r)∧Below w.heap.size w w':=
 QhK N l hR r hS (compC N l) (QbT hR) sv rv w hl hr (fun W h=>Qmd N l hR sv W h)
theorem QjG (L:List Int)(hL:L.length≤4194304)(sv:Value)(w:World)(h:Ints w.heap.size w sv L):
  Calls Tryz.prog 74 #[sv,.func (.func 104) #[] #[]] w fun e w'=>w'=w∧∃ k:Int,e = .returned (.int .i64 k)∧(0≤k↔∃ x∈L,x≠2):=by
 have hent:∀ (args:Array Value) (W:World),(callFunc 104 args).run Tryz.prog W = .ok (.enter 104 args) W:=fun args W=>by kernel_rfl
 have hp1:∀ (x:Int) (W:World),Calls Tryz.prog 104 #[.int .i64 x] W fun e w'=>e = .returned (.bool (x != 2))∧w'=W:=fun x W=>by
  go_enter Tryz.func104,Tryz.ntmps104
  go_wp2
  go_ret
  exact⟨rfl,rfl⟩
 obtain⟨p,c,rfl⟩:=h.len
 have HI:Hid (Ints w.heap.size w (.slice p L.length c) L):=h
 clear h
 go_enter Tryz.func74,Tryz.ntmps74
 go_wp2
 go_loopw [8] (fun iv wr=>∃ j:Nat,j≤L.length∧iv = .int .i64 j∧Hid (∀ (i:Nat) (h1:i<L.length),i<j→L[i]=2)∧wr=w) (fun i _=>L.length-(intOf i).toNat)
 case atStart=>exact⟨0,YN,rfl,fun i _ h=>by omega,rfl⟩
 case round=>
  obtain⟨j,hj,rfl,HS,rfl⟩:=hrel
  by_cases hlt:j<L.length
  ·have hjl:(j:Int)<(L.length:Int):=by omega
   obtain⟨b,off,rfl,hbb,hcap,hc⟩:=HI.out.open hlt
   have c0:=hc wr YD j hlt
   by_cases he:L[j]=2
   ·have HS2:Hid (∀ (i:Nat) (h1:i<L.length),i<j+1→L[i]=2):=fun i h1 h=>by
     by_cases e:i=j
     ·subst e;exact he
     ·exact HS.out i h1 (by omega)
    rw [he] at c0
    have HLT:Hid (j<L.length):=hlt
    have hcl:=hp1 2 wr
    rw [show ((2:Int) != 2)=false from rfl] at hcl
    clear he HS hlt hc hp1
    go_wp2_with fail
    refine hcl.mono ?_
    clear hcl
    rintro e w2 ⟨rfl,rfl⟩
    go_wp2
    exact⟨⟨j+1,HLT.out,by go_num,HS2.out,trivial⟩,by have:=HLT.out;simp [intOf];omega⟩
   ·have HE:Hid (∃ x∈L,x≠2):=⟨L[j],YG hlt,he⟩
    have hcl:=hp1 L[j] wr
    rw [show (L[j] != 2)=true from bne_iff_ne.2 he] at hcl
    generalize L[j]=x at c0 hcl
    clear he HS hlt hc hp1
    go_wp2_with fail
    refine hcl.mono ?_
    clear hcl
    rintro e w2 ⟨rfl,rfl⟩
    go_wp2
    go_ret
    exact⟨rfl,(j:Int),rfl,fun _=>HE.out,fun _=>by omega⟩
  ·obtain rfl:j=L.length:=by omega
   have HE:Hid (¬ ∃ x∈L,x≠2):=fun ⟨x,hx,hn⟩=>by
    obtain⟨i,hi,rfl⟩:=List.getElem_of_mem hx
    exact hn (HS.out i hi hi)
   clear HS
   go_wp2
   go_ret
   exact⟨rfl,-1,rfl,fun h=>by omega,fun h=>absurd h HE.out⟩
theorem QfX (L:List Int)(hL:L.length≤4194304)(sv:Value)(w:World)(h:Ints w.heap.size w sv L):
  Calls Tryz.prog 46 #[sv,.func (.func 104) #[] #[]] w fun e w'=>e = .returned (.bool (L.any fun x=>decide (x≠2)))∧w'=w:=by
 have hi:=QjG L hL sv w h
 obtain⟨p,c,rfl⟩:=h.len
 clear h
 have HA:Hid ((L.any fun x=>decide (x≠2))=true↔∃ x∈L,x≠2):=by unfold Hid;rw [List.any_eq_true];simp
 go_enter Tryz.func46,Tryz.ntmps46
 go_wp2_with fail
 refine hi.mono ?_
 clear hi
 rintro e w2 ⟨rfl,k,rfl,hk⟩
 have HK:Hid (decide (0≤k)=(L.any fun x=>decide (x≠2))):=by
  unfold Hid
  by_cases h:0≤k
  ·rw [decide_eq_true h,HA.out.2 (hk.1 h)]
  ·rw [decide_eq_false h]
   cases hc:(L.any fun x=>decide (x≠2)) with
   | false=>rfl
   | true=>exact absurd (hk.2 (HA.out.1 hc)) h
 clear hk
 go_wp2
 go_ret
 exact⟨by rw [← HK.out];rfl,rfl⟩
def Qa5 (L:List Int):Int:=if (L.any fun x=>decide (x≠2)) then 12 else 0
theorem QkX (N:Nat)(l:List Ed)(hR:RightG (N:Int) l)(r:List (List Int))(hS:SysR N l r)(sv rv:Value)(w:World)(hl:Edges w.heap.size w sv l)(hr:Lsts w.heap.size w rv r):
  Calls Tryz.prog 80 #[.agg #[.int .i64 (N:Int),sv],rv] w fun e w'=>e = .returned (.int .i64 (Qa5 (numsL N l r)))∧Below w.heap.size w w':=by
 have hbA:Below w.heap.size w (w.alloc (.cells #[.int .i64 (N:Int),sv] 24)):=YD.alloc YA _
 have hX:Blk 24 (w.alloc (.cells #[.int .i64 (N:Int),sv] 24)) w.heap.size [.int .i64 (N:Int),sv]:=heap_alloc_new w _
 have q0:=hX.cell (j:=0) rfl
 have q1:=hX.cell (j:=1) rfl
 have hrc:=QdC (N:Int) l r sv rv _ (hl.go hbA) (hr.go hbA)
 rw [Qd2 hR hS] at hrc
 have hnl:(numsL N l r).length≤4194304:=by
  rw [Qen]
  have h1:=(QbT hR).few
  have h2:=hR.n1
  omega
 have HX:Hid (Blk 24 (w.alloc (.cells #[.int .i64 (N:Int),sv] 24)) w.heap.size [.int .i64 (N:Int),sv]):=hX
 have HN:Hid (∀ W,Below w.heap.size w W→Calls Tryz.prog 103 #[.agg #[.int .i64 (N:Int),sv],rv] W fun e w'=>∃ lv,e = .returned lv∧Ints w'.heap.size w' lv (numsL N l r)∧Below W.heap.size W w'):=fun W h=>Qm1 N l hR r hS sv rv W (hl.go h) (hr.go h)
 have HBA:Hid _:=hbA
 clear hX hl hr hbA hR hS
 go_enter Tryz.func80,Tryz.ntmps80
 go_wp2_with fail
 generalize w.alloc (.cells #[.int .i64 (N:Int),sv] 24)=w1 at *
 refine hrc.mono ?_
 clear hrc
 rintro e w2 ⟨rfl,hb2⟩
 have hX2:=HX.out.go hb2
 have hB2:Below w.heap.size w w2:=HBA.out.trans (hb2.mono HBA.out.size)
 have y0:=hX2.cell (j:=0) rfl
 have y1:=hX2.cell (j:=1) rfl
 have hn:=HN.out w2 hB2
 clear hX2 HX HN q0 q1 hb2
 go_wp2_with fail
 refine hn.mono ?_
 clear hn
 rintro e w3 ⟨lv,rfl,hI,hb3⟩
 have hcf:=QfX (numsL N l r) hnl lv w3 hI
 obtain⟨pl,cl,rfl⟩:=hI.len
 clear hI
 have HB3:Hid (Below w.heap.size w w3):=hB2.trans (hb3.mono hB2.size)
 clear hb3 y0 y1 hB2
 generalize hL:numsL N l r=L at *
 cases hb:(L.any fun x=>decide (x≠2)) with
 | false=>
  have HE:Hid (Qa5 L=0):=by unfold Hid Qa5;rw [hb];rfl
  rw [hb] at hcf
  clear hb
  go_wp2_with fail
  refine hcf.mono ?_
  clear hcf
  rintro e w4 ⟨rfl,rfl⟩
  go_wp2
  go_ret
  exact⟨by rw [hL,HE.out];rfl,HB3.out⟩
 | true=>
  have HE:Hid (Qa5 L=12):=by unfold Hid Qa5;rw [hb];rfl
  rw [hb] at hcf
  clear hb
  go_wp2_with fail
  refine hcf.mono ?_
  clear hcf
  rintro e w4 ⟨rfl,rfl⟩
  go_wp2
  go_ret
  exact⟨by rw [hL,HE.out];rfl,HB3.out⟩
theorem Qn7 (O:List Int){i:Nat}:∀ (es:List Ed) (L:List Int),i<L.length→(liE O L es).getD i 0=L.getD i 0-((es.countP fun e=>decide ((O.getD e.1.toNat 0).toNat=i):Nat):Int)
 | [],L,_=>by simp [liE]
 | e :: es,L,h=>by
  have ih:=Qn7 O es (bumpL L (O.getD e.1.toNat 0).toNat (-1)) (by rw [Qda];exact h)
  have e1:liE O L (e :: es)=liE O (bumpL L (O.getD e.1.toNat 0).toNat (-1)) es:=rfl
  rw [e1,ih,Qdb,List.countP_cons]
  by_cases hk:(O.getD e.1.toNat 0).toNat=i
  ·rw [if_pos ⟨hk,by omega⟩,if_pos (by simpa using hk),hk]
   omega
  ·rw [if_neg (fun h=>hk h.1),if_neg (by simpa using hk)]
   omega
theorem Qn6 (O:List Int){i:Nat}:∀ (fs:List (List Dt)) (L:List Int),i<L.length→(liF O L fs).getD i 0=L.getD i 0+((fs.countP fun f=>decide ((O.getD (f.getD 0 (0,0)).1.toNat 0).toNat=i):Nat):Int)
 | [],L,_=>by simp [liF]
 | f :: fs,L,h=>by
  have ih:=Qn6 O fs (bumpL L (O.getD (f.getD 0 (0,0)).1.toNat 0).toNat 1) (by rw [Qda];exact h)
  have e1:liF O L (f :: fs)=liF O (bumpL L (O.getD (f.getD 0 (0,0)).1.toNat 0).toNat 1) fs:=rfl
  rw [e1,ih,Qdb,List.countP_cons]
  by_cases hk:(O.getD (f.getD 0 (0,0)).1.toNat 0).toNat=i
  ·rw [if_pos ⟨hk,by omega⟩,if_pos (by simpa using hk),hk]
   omega
  ·rw [if_neg (fun h=>hk h.1),if_neg (by simpa using hk)]
   omega
theorem QiC (i:Int):∀ (xs O:List Int) {v:Nat},v<O.length→(ofRow O xs i).getD v 0=if v∈xs.map Int.toNat then i else O.getD v 0
 | [],O,v,_=>by simp [ofRow]
 | x :: xs,O,v,h=>by
  have ih:=QiC i xs (O.set x.toNat i) (v:=v) (by simpa using h)
  have e1:ofRow O (x :: xs) i=ofRow (O.set x.toNat i) xs i:=rfl
  rw [e1,ih,Qav,List.map_cons]
  by_cases h1:v∈xs.map Int.toNat
  ·rw [if_pos h1,if_pos (List.mem_cons.2 (.inr h1))]
  ·rw [if_neg h1]
   by_cases h2:x.toNat=v
   ·rw [if_pos ⟨h2,by omega⟩,if_pos (List.mem_cons.2 (.inl h2.symm))]
   ·rw [if_neg (fun h=>h2 h.1),if_neg (fun hc=>(List.mem_cons.1 hc).elim (fun h3=>h2 h3.symm) h1)]
theorem Qn3 (N:Nat)(C:List (List Int)){i v:Nat}(hv:v<N)(hm:v∈(C.getD i []).map Int.toNat):∀ (n:Nat),i<n→(∀ j,j<n→v∈(C.getD j []).map Int.toNat→j=i)→(ofC N C n).getD v 0=(i:Int)
 | n+1,hi,hu=>by
  rw [ofC,QiC _ _ _ (by rw [QhI];exact hv)]
  by_cases h1:v∈(C.getD n []).map Int.toNat
  ·rw [if_pos h1,hu n (by omega) h1]
  ·rw [if_neg h1]
   have:i≠n:=fun e=>h1 (by rw [← e];exact hm)
   exact Qn3 N C hv hm n (by omega) (fun j hj=>hu j (by omega))
def KC (N:Nat)(l:List Ed)(i:Nat):List Nat:=((compC N l).getD i []).map Int.toNat
section
variable {N:Nat} {l:List Ed} {r:List (List Int)}
theorem Qdr (hR:RightG (N:Int) l){i:Nat}(hi:i<(compC N l).length):∃ q:Nat,(QaN (labAt N l N) N)[i]? = some q∧q<N∧(compC N l).getD i []=memAt (labAt N l N) q N∧∀ v,v∈KC N l i↔v<N∧Conn l v q:=by
 have e:compC N l=(QaN (labAt N l N) N).map fun r=>memAt (labAt N l N) r N:=Qce _ _ _
 have hi':i<(QaN (labAt N l N) N).length:=by rw [e,List.length_map] at hi;exact hi
 have hg:(QaN (labAt N l N) N)[i]? = some (QaN (labAt N l N) N)[i]:=YB hi'
 have hm:(QaN (labAt N l N) N)[i]∈QaN (labAt N l N) N:=YG hi'
 generalize (QaN (labAt N l N) N)[i]=q at hg hm
 obtain⟨h1,h2⟩:=rootsN_mem.1 hm
 have e2:(compC N l).getD i []=memAt (labAt N l N) q N:=by
  rw [e,YC,YH,hg]
  rfl
 refine⟨q,hg,h1,e2,fun v=>?_⟩
 unfold KC
 rw [e2]
 unfold memAt
 rw [List.map_map]
 have e3:(Int.toNat ∘ fun (x:Nat)=>(x:Int))=id:=by funext x;simp
 rw [e3,List.map_id,List.mem_filter,List.mem_range]
 simp only [Bool.and_eq_true,decide_eq_true_eq]
 constructor
 ·rintro⟨hv,_,h4⟩
  exact⟨hv,(Qc0 (Qao hR) hv h1).1 (by rw [h4,h2])⟩
 ·rintro⟨hv,hc⟩
  have h4:=(Qc0 (Qao hR) hv h1).2 hc
  refine⟨hv,?_,by rw [h4,h2]⟩
  obtain⟨x,hx,_,hxc,hxl⟩:=Qa0 (Qao hR) h1
  have:=hxl v hv hc.symm
  omega
theorem Qnm (N:Nat)(l:List Ed)(hR:RightG (N:Int) l){i:Nat}(hi:i<(compC N l).length):(KC N l i).Nodup:=by
 obtain⟨q,_,_,e2,_⟩:=Qdr hR hi
 unfold KC
 rw [e2]
 unfold memAt
 rw [List.map_map]
 have e3:(Int.toNat ∘ fun (x:Nat)=>(x:Int))=id:=by funext x;simp
 rw [e3,List.map_id]
 exact List.Pairwise.filter _ List.nodup_range
theorem Qn9 (hR:RightG (N:Int) l){i j v:Nat}(hi:i<(compC N l).length)(hj:j<(compC N l).length)(h1:v∈KC N l i)(h2:v∈KC N l j):j=i:=by
 obtain⟨q,hq,hqN,_,hm⟩:=Qdr hR hi
 obtain⟨s,hs,hsN,_,hm'⟩:=Qdr hR hj
 obtain⟨hv,c1⟩:=(hm v).1 h1
 obtain⟨_,c2⟩:=(hm' v).1 h2
 have hq':=rootsN_mem.1 (YK hq)
 have hs':=rootsN_mem.1 (YK hs)
 have:=(Qc0 (Qao hR) hqN hsN).2 (c1.symm.trans c2)
 have e:q=s:=by omega
 subst e
 have hn:(QaN (labAt N l N) N).Nodup:=List.Pairwise.filter _ List.nodup_range
 obtain⟨a1,b1⟩:=YE hq
 obtain⟨a2,b2⟩:=YE hs
 exact (List.getElem_inj hn).1 (b2.trans b1.symm)
theorem kc_of (hR:RightG (N:Int) l){v:Nat}(hv:v<N):∃ i,i<(compC N l).length∧v∈KC N l i:=by
 obtain⟨x,hx,hxN,hxc,hxl⟩:=Qa0 (Qao hR) hv
 obtain⟨y,hy,hyN,hyc,hyl⟩:=Qa0 (Qao hR) hxN
 have e:y=x:=by
  have h1:=hyl x hxN (.refl _)
  have h2:=hxl y hyN (hxc.trans hyc)
  omega
 subst e
 have hm:y∈QaN (labAt N l N) N:=rootsN_mem.2 ⟨hxN,hy⟩
 obtain⟨i,hi⟩:=List.getElem?_of_mem hm
 have hlen:i<(compC N l).length:=by
  have e:compC N l=(QaN (labAt N l N) N).map fun r=>memAt (labAt N l N) r N:=Qce _ _ _
  rw [e,List.length_map]
  exact (YE hi).1
 obtain⟨q,hq,_,_,hmem⟩:=Qdr hR hlen
 rw [hi] at hq
 obtain rfl:=Option.some.inj hq
 exact⟨i,hlen,(hmem v).2 ⟨hv,hxc⟩⟩
theorem QoW (hR:RightG (N:Int) l){i:Nat}(hi:i<(compC N l).length):ShutK l (KC N l i):=by
 obtain⟨q,_,_,_,hm⟩:=Qdr hR hi
 intro u hu v hv
 obtain⟨h1,h2⟩:=(hm u).1 hu
 have h3:=(QaZ hR hv).2.2.1
 exact (hm v).2 ⟨by omega,.step ((Qoi hR).2 hv).symm h2⟩
theorem Qa2 (hR:RightG (N:Int) l)(hS:SysR N l r):Dec (nxD r) (fun x=>x∈Qah N l) (facesL N l r):=by
 have hP:=Qfs hS hR
 have hn:=Qcq hS hR
 have hlen:(keysR r N).length≤2*l.length+1:=by
  rw [Qc1 hS YA,QbR (fun e he=>(hR.each e he).1)]
  omega
 obtain⟨⟨left,hG⟩,hr⟩:=QeA (starts:=Qah N l) hP hn hlen (fun d hd=>(QaM hS hR).2 hd) YA
 refine⟨hr,?_,fun x=>?_⟩
 ·unfold facesL
  rw [QbL]
  exact (List.nodup_append.1 hG.nodup).2.1
 ·unfold facesL
  rw [QbL]
  constructor
  ·intro hx
   exact (QaM hS hR).1 ((hG.all x).2 (.inr (.inr hx)))
  ·intro hx
   obtain⟨j,hj,e⟩:=List.getElem_of_mem hx
   have:=QcK (nx:=nxD r) (starts:=Qah N l) (fuel:=2*l.length+1) (by omega) (Qah N l).length j hj
   rw [YC,YB hj,e] at this
   exact this
def QgY (fs:List (List Dt))(K:List Nat):List (List Dt):=fs.filter fun f=>decide ((f.getD 0 (0,0)).1.toNat∈K)
theorem QoX (hR:RightG (N:Int) l)(hS:SysR N l r){i:Nat}(hi:i<(compC N l).length):∃ h:Nat,h∈KC N l i∧(((compC N l).getD i []).getD 0 0).toNat=h∧(((r.getD h []).length=0∧KC N l i=[h]∧nb l (h:Int)=[])∨((r.getD h []).length≠0∧∀ v∈KC N l i,nb l (v:Int)≠[])):=by
 have hne:=(QbT hR).ne ((compC N l).getD i []) (by rw [YC,YB hi];exact YG hi)
 obtain⟨q,_,_,e2,hm⟩:=Qdr hR hi
 have hh:(((compC N l).getD i []).getD 0 0).toNat∈KC N l i:=by
  unfold KC
  match hx:(compC N l).getD i [],hne with
  | y :: xs,_=>simp
 generalize (((compC N l).getD i []).getD 0 0).toNat=h at hh
 have hhN:=((hm h).1 hh).1
 have hlen:=(hS.perm h hhN).length_eq
 have conn:∀ v∈KC N l i,Conn l v h:=fun v hv=>((hm v).1 hv).2.trans ((hm h).1 hh).2.symm
 have alone:∀ {u v:Nat},nb l (u:Int)=[]→Conn l u v→u=v:=fun {u v} hu hc=>by
  obtain⟨ls,hl⟩:=hc
  match ls,hl with
  | [],hl=>exact hl
  | x :: ls,hl=>
   have:=(Qoi hR).1 hl.1
   rw [hu] at this
   simp at this
 refine⟨h,hh,rfl,?_⟩
 by_cases h0:(r.getD h []).length=0
 ·left
  have hnb:nb l (h:Int)=[]:=List.eq_nil_of_length_eq_zero (by omega)
  refine⟨h0,?_,hnb⟩
  have hall:∀ v∈KC N l i,v=h:=fun v hv=>(alone hnb (conn v hv).symm).symm
  have hnd:=Qnm N l hR hi
  match hK:KC N l i,hh,hall,hnd with
  | [],hh,_,_=>simp at hh
  | [x],hh,hall,_=>rw [hall x (by simp)]
  | x :: y :: L,_,hall,hnd=>
   have e1:=hall x (by simp)
   have e2:=hall y (by simp)
   rw [List.nodup_cons] at hnd
   exact absurd (by rw [e1,← e2];simp) hnd.1
 ·right
  refine⟨h0,fun v hv hnb=>?_⟩
  have:=alone hnb (conn v hv)
  subst this
  rw [hnb] at hlen
  simp at hlen
  exact h0 (by simpa using hlen)
theorem Qpz (hR:RightG (N:Int) l)(hS:SysR N l r){i:Nat}(hi:i<(compC N l).length):hd0 r ((compC N l).getD i [])=(isoK l (KC N l i):Int)∧hd0 r ((compC N l).getD i [])=if eK l (KC N l i)=0 then 1 else 0:=by
 obtain⟨h,hh,he,hc⟩:=QoX hR hS hi
 unfold hd0
 rw [he]
 have hsh:=QoW hR hi
 rcases hc with ⟨h0,hK,hnb⟩ | ⟨h0,hnb⟩
 ·rw [if_pos h0,hK]
  refine⟨?_,?_⟩
  ·unfold isoK
   simp [hnb]
  ·rw [if_pos]
   unfold eK
   rw [List.countP_eq_zero]
   intro e he2 h1
   have h2:e.1.toNat=h:=by simpa using h1
   have hok:=(hR.each e he2).1
   have h3:=hok.1
   have:e.2.1∈nb l (h:Int):=mem_nb.2 ⟨e,he2,.inl ⟨by omega,rfl⟩⟩
   rw [hnb] at this
   simp at this
 ·rw [if_neg h0]
  refine⟨?_,?_⟩
  ·unfold isoK
   have:(KC N l i).countP (fun (v:Nat)=>(nb l (v:Int)).isEmpty)=0:=by
    rw [List.countP_eq_zero]
    intro v hv
    have:=hnb v hv
    simpa using this
   rw [this]
   rfl
  ·rw [if_neg]
   intro h1
   unfold eK at h1
   rw [List.countP_eq_zero] at h1
   obtain⟨y,hy⟩:=List.exists_mem_of_ne_nil _ (hnb h hh)
   obtain⟨e,he2,h2⟩:=mem_nb.1 hy
   have hy0:=(QaZ hR hy).2.1
   rcases h2 with ⟨h3,_⟩ | ⟨_,_,h3⟩
   ·exact h1 e he2 (by rw [h3];simpa using hh)
   ·have:(y.toNat:Int)∈nb l (h:Int):=by rw [show (y.toNat:Int)=y by omega];exact hy
    exact h1 e he2 (by rw [h3];simpa using hsh h hh _ this)
theorem Qn1 (hR:RightG (N:Int) l){i v:Nat}(hi:i<(compC N l).length)(hv:v<N):((ofC N (compC N l) (compC N l).length).getD v 0).toNat=i↔v∈KC N l i:=by
 obtain⟨j,hj,hm⟩:=kc_of hR hv
 have:=Qn3 N (compC N l) hv (i:=j) hm (compC N l).length hj (fun k hk h=>Qn9 hR hj hk hm h)
 rw [this]
 simp only [YM]
 constructor
 ·intro e;rw [← e];exact hm
 ·intro h;exact (Qn9 hR hi hj h hm)
theorem QoQ (hR:RightG (N:Int) l)(hS:SysR N l r){i:Nat}(hi:i<(compC N l).length):(numsL N l r).getD i 0=(((compC N l).getD i []).length:Int)-(eK l (KC N l i):Int)+((QgY (facesL N l r) (KC N l i)).length:Int)+hd0 r ((compC N l).getD i []):=by
 have hD:=Qa2 hR hS
 unfold numsL numsM
 rw [Qn6 _ _ _ (by rw [QhQ,Qdp];exact hi),Qn7 _ _ _ (by rw [Qdp];exact hi),Qn8 hi,if_pos hi]
 have h1:l.countP (fun e=>decide (((ofC N (compC N l) (compC N l).length).getD e.1.toNat 0).toNat=i))=eK l (KC N l i):=by
  unfold eK
  refine List.countP_congr fun e he=>?_
  have hok:=(hR.each e he).1
  have ha:=hok.1
  have hb:=hok.2.1
  simp only [decide_eq_true_eq]
  exact Qn1 hR hi (by omega)
 have h2:(facesL N l r).countP (fun f=>decide (((ofC N (compC N l) (compC N l).length).getD (f.getD 0 (0,0)).1.toNat 0).toNat=i))=(QgY (facesL N l r) (KC N l i)).length:=by
  unfold QgY
  rw [← List.countP_eq_length_filter]
  refine List.countP_congr fun f hf=>?_
  have hx:f.getD 0 (0,0)∈Qah N l:=by
   refine (hD.mem _).1 (List.mem_flatten.2 ⟨f,hf,?_⟩)
   match f,(hD.rnd f hf).1 with
   | y :: f,_=>simp
  obtain⟨u,v,e,hu,_⟩:=QbI hR hx
  simp only [decide_eq_true_eq]
  rw [e]
  simp only [YM]
  exact Qn1 hR hi hu
 rw [h1,h2]
 omega
end
section
variable {N:Nat} {l:List Ed} {r:List (List Int)}
theorem Qj9 {nx:Dt→Dt}{col:Int→Bool}{d:Dt}:∀ {x:Dt} {L:List Dt},(∀ y∈L,col (nx y).1 = !(col y.1))→Way nx d x L→col d.1=(col x.1 ^^ decide (L.length % 2=1))
 | x,[],_,h=>by
  have e:x=d:=h
  subst e
  simp
 | x,y :: L,hc,h=>by
  obtain⟨rfl,h2⟩:=h
  have h3:=Qj9 (fun z hz=>hc z (List.mem_cons_of_mem _ hz)) h2
  rw [h3,hc x (List.mem_cons_self ..),List.length_cons]
  by_cases e:L.length % 2=1
  ·have e2:¬ (L.length+1) % 2=1:=by omega
   simp [e,e2]
  ·have e2:(L.length+1) % 2=1:=by omega
   simp [e,e2]
def twoD (e:Ed):List Dt:=[(e.1,e.2.1),(e.2.1,e.1)]
theorem Qbp (hR:RightG (N:Int) l):(l.flatMap twoD).Perm (Qah N l):=by
 refine (List.perm_ext_iff_of_nodup ?_ (QdL hR)).2 fun d=>?_
 ·unfold List.Nodup
  rw [List.pairwise_flatMap]
  refine⟨fun e he=>?_,?_⟩
  ·have h:=(hR.each e he).2
   simp only [twoD,List.pairwise_cons,List.mem_singleton,ne_eq,forall_eq,List.not_mem_nil,false_implies,implies_true,List.Pairwise.nil,and_true]
   intro e2
   have:=congrArg Prod.fst e2
   simp only at this
   omega
  ·refine (List.Pairwise.and_mem.1 hR.rise).imp fun {a b} hab=>?_
   obtain⟨ha,hb,hlo⟩:=hab
   have h1:=(hR.each a ha).2
   have h2:=(hR.each b hb).2
   have h3:=lo_iff.1 hlo
   intro x hx y hy e
   subst e
   simp only [twoD,List.mem_cons,List.not_mem_nil,or_false] at hx hy
   rcases hx with rfl | rfl <;> rcases hy with e | e <;> (have e1:=congrArg Prod.fst e;have e2:=congrArg Prod.snd e;simp only at e1 e2;omega)
 ·rw [dartsL_mem,List.mem_flatMap]
  constructor
  ·rintro⟨e,he,hd⟩
   obtain⟨hok,hlt⟩:=hR.each e he
   obtain⟨a1,a2,a3,a4,_,_⟩:=hok
   simp only [twoD,List.mem_cons,List.not_mem_nil,or_false] at hd
   rcases hd with rfl | rfl
   ·refine⟨e.1.toNat,by omega,by simp only;omega,mem_nb.2 ⟨e,he,.inl ⟨by omega,rfl⟩⟩⟩
   ·refine⟨e.2.1.toNat,by omega,by simp only;omega,mem_nb.2 ⟨e,he,.inr ⟨by omega,by omega,rfl⟩⟩⟩
  ·rintro⟨u,hu,h1,h2⟩
   obtain⟨e,he,h⟩:=mem_nb.1 h2
   refine⟨e,he,?_⟩
   simp only [twoD,List.mem_cons,List.not_mem_nil,or_false]
   rcases h with ⟨b1,b2⟩ | ⟨_,b1,b2⟩
   ·exact .inl (Prod.ext (by simp only;omega) (by simp only;omega))
   ·exact .inr (Prod.ext (by simp only;omega) (by simp only;omega))
theorem QlZ (hR:RightG (N:Int) l)(hS:SysR N l r){col:Int→Bool}(hc:∀ e∈l,col e.1≠col e.2.1):∀ f∈facesL N l r,f.length % 2=0:=by
 intro f hf
 have hD:=Qa2 hR hS
 obtain⟨_,d,hw⟩:=hD.rnd f hf
 have h:=Qj9 (col:=col) (fun y hy=>by
  have hy2:y∈Qah N l:=(hD.mem y).1 (List.mem_flatten.2 ⟨f,hf,hy⟩)
  have hy3:=(Qbp hR).mem_iff.2 hy2
  obtain⟨e,he,h2⟩:=List.mem_flatMap.1 hy3
  have h3:=hc e he
  show col y.2 = !(col y.1)
  simp only [twoD,List.mem_cons,List.not_mem_nil,or_false] at h2
  rcases h2 with rfl | rfl
  ·show col e.2.1 = !(col e.1)
   revert h3
   cases col e.1 <;> cases col e.2.1 <;> simp
  ·show col e.1 = !(col e.2.1)
   revert h3
   cases col e.1 <;> cases col e.2.1 <;> simp) hw
 by_cases e:f.length % 2=1
 ·rw [decide_eq_true e] at h
  revert h
  cases col d.1 <;> simp
 ·omega
theorem Qfn {p:Dt→Bool}:∀ {G:List (List Dt)},(∀ f∈G,f.length % 2=0)→(∀ f∈G,(∀ d∈f,p d=true)∨(∀ d∈f,p d=false))→G.flatten.countP p % 2=0
 | [],_,_=>rfl
 | f :: G,h1,h2=>by
  have ih:=Qfn (fun g hg=>h1 g (List.mem_cons_of_mem _ hg)) (fun g hg=>h2 g (List.mem_cons_of_mem _ hg))
  have hf:=h1 f (List.mem_cons_self ..)
  rw [List.flatten_cons,List.countP_append]
  rcases h2 f (List.mem_cons_self ..) with h | h
  ·rw [List.countP_eq_length.2 h]
   omega
  ·have e:f.countP p=0:=List.countP_eq_zero.2 (fun d hd=>by rw [h d hd];simp)
   omega
theorem Qf6 (q:Dt→Bool):∀ L:List Ed,(L.map fun e=>q (e.1,e.2.1) ^^ q (e.2.1,e.1)).foldr xor false=decide ((L.flatMap twoD).countP q % 2=1)
 | []=>rfl
 | e :: L=>by
  rw [List.map_cons,List.foldr_cons,Qf6 q L,List.flatMap_cons,List.countP_append]
  have e1:(twoD e).countP q=(if q (e.1,e.2.1)=true then 1 else 0)+(if q (e.2.1,e.1)=true then 1 else 0):=by
   simp only [twoD,List.countP_cons,List.countP_nil]
   omega
  rw [e1]
  generalize (L.flatMap twoD).countP q=c
  generalize q (e.1,e.2.1)=b1
  generalize q (e.2.1,e.1)=b2
  cases b1 <;> cases b2
  ·simp
  ·simp only [Bool.false_xor,Bool.true_xor,Bool.false_eq_true,if_false,if_true]
   rw [← decide_not]
   exact decide_eq_decide.2 (by omega)
  ·simp only [Bool.true_xor,Bool.xor_false,Bool.false_eq_true,if_false,if_true]
   rw [← decide_not]
   exact decide_eq_decide.2 (by omega)
  ·simp only [Bool.xor_self,Bool.false_xor,if_true]
   exact decide_eq_decide.2 (by omega)
theorem QjU (hR:RightG (N:Int) l)(hS:SysR N l r){col:Int→Bool}(hc:∀ e∈l,col e.1≠col e.2.1)(fo:Dt→Int)(hfo:∀ (i:Nat) (hi:i<(facesL N l r).length) (d:Dt),d∈(facesL N l r)[i]→fo d=(i:Int))(k:Nat):
  (l.map fun e=>(fo (e.1,e.2.1)==(k:Int)) ^^ (fo (e.2.1,e.1)==(k:Int))).foldr xor false=false:=by
 have hD:=Qa2 hR hS
 have h1:=Qf6 (fun d=>fo d==(k:Int)) l
 rw [h1]
 have hp:(facesL N l r).flatten.Perm (Qah N l):=(List.perm_ext_iff_of_nodup hD.nodup (QdL hR)).2 hD.mem
 rw [((Qbp hR).trans hp.symm).countP_eq]
 have h2:=Qfn (p:=fun d=>fo d==(k:Int)) (QlZ hR hS hc) (fun f hf=>by
  obtain⟨i,hi,rfl⟩:=List.mem_iff_getElem.1 hf
  by_cases e:i=k
  ·exact .inl fun d hd=>by rw [hfo i hi d hd,e];simp
  ·exact .inr fun d hd=>by rw [hfo i hi d hd];simp;omega)
 rw [h2]
 rfl
end
end Go.Proofs.YtalflecmadacaaaGreat
