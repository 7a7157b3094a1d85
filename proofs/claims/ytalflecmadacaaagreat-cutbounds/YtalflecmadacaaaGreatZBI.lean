import Derived.Sort.OwnSortedInts
import Derived.Test.YtalflecmadacaaaGreatShelfS
import Derived.Test.YtalflecmadacaaaGreatZAU
import Derived.Test.YtalflecmadacaaaGreatZAT
import Derived.Test.YtalflecmadacaaaGreatZAV
import Derived.Test.YtalflecmadacaaaGreatZAX
import Derived.Test.YtalflecmadacaaaGreatZAQ
import Derived.Test.YtalflecmadacaaaGreatZAD
import Derived.Test.YtalflecmadacaaaGreatZAW
import Derived.Test.YtalflecmadacaaaGreatZAA
set_option maxRecDepth 100000
set_option maxHeartbeats 8000000
namespace Go.Proofs.YtalflecmadacaaaGreat
open Go Go.Proofs Go.RowKit
def sortL (L:List Int):List Int:=L.mergeSort fun x y=>decide (x≤y)
theorem Qb0 (L:List Int):(sortL L).length=L.length:=by unfold sortL;simp
theorem Qfd (L:List Int):(sortL L).Perm L:=List.mergeSort_perm _ _
theorem QgF {L K:List Int}(hK:K.Pairwise (· < ·)):sortL L=K↔L.Perm K:=by
 constructor
 ·intro h
  rw [← h]
  exact (Qfd L).symm
 ·intro h
  have h1:(sortL L).Pairwise (fun x y=>decide (x≤y)=true):=List.pairwise_mergeSort (fun a b c h1 h2=>by simp at *;omega) (fun a b=>by simp;omega) L
  refine List.Perm.eq_of_pairwise (le:=fun x y=>decide (x≤y)=true) (fun a b _ _ h1 h2=>by simp at *;omega) h1 (hK.imp fun {a b} hab=>by simp;omega) ((Qfd L).trans h)
theorem Qdq {n:Nat}{w:World}{b off c:Nat}{L:List Int}(h:Ints n w (.slice (some ⟨b,off,none⟩) L.length c) L):∀ j,j<L.length→w.cell? ⟨b,off+j,none⟩=some (.int .i64 (L.getD j 0)):=fun j hj=>by
 obtain⟨b',off',e,_,_,hc⟩:=h.open hj
 simp only [Option.some.injEq,Addr.mk.injEq,and_true] at e
 obtain⟨rfl,rfl⟩:=e
 rw [hc w YD j hj,YC,YB hj]
 rfl
theorem Qic (L K:List Int)(hK:K.length≤4194304)(sl sk:Value)(w:World)(hl:Ints w.heap.size w sl L)(hk:Ints w.heap.size w sk K):
  Calls Tryz.prog 121 #[sl,sk] w fun e w'=>e = .returned (.bool (decide (sortL L=K)))∧Below w.heap.size w w':=by
 obtain⟨p,c,rfl⟩:=hl.len
 obtain⟨pk,ck,rfl⟩:=hk.len
 by_cases hlen:L.length=K.length
 ·have hL:L.length≤4194304:=by omega
  have hlen':((L.length:Int) != (K.length:Int))=false:=by rw [hlen];simp
  by_cases hz:L.length=0
  ·have hL0:L=[]:=List.eq_nil_of_length_eq_zero hz
   have hK0:K=[]:=List.eq_nil_of_length_eq_zero (by omega)
   subst hL0
   subst hK0
   have hE:decide (sortL []=[])=true:=by simp [sortL]
   rw [hE]
   have hcl:Calls Tryz.prog 152 #[.slice p 0 c] w fun e w'=>∃ q k,e = .returned (.slice q 0 k)∧Below w.heap.size w w':=by
    cases p with
    | none=>exact (Tryz.slices_Clone_int_nil 0 c w).mono fun e w' ⟨h1,h2⟩=>⟨none,0,h1,by rw [h2];exact YD⟩
    | some a=>
     refine (Tryz.slices_Clone_int_zero a c w).mono ?_
     rintro e w' ⟨v',h1,h2,_,h3⟩
     obtain⟨q,k,rfl⟩:=Qag h2
     exact⟨q,k,h1,h3⟩
   clear hE hlen hz
   go_enter Tryz.func121,Tryz.ntmps121
   go_wp2_with fail
   refine hcl.mono ?_
   rintro e w2 ⟨q,k,rfl,hb2⟩
   go_wp2_with fail
   refine (Tryz.slices_Sort_int_none q k w2).mono ?_
   rintro e w3 ⟨rfl,rfl⟩
   go_wp2_with fail
   refine (Tryz.slices_Equal_int_empty q pk k 0 ck w3 (by omega)).mono ?_
   rintro e w4 ⟨rfl,rfl⟩
   go_wp2
   go_ret
   exact⟨rfl,hb2⟩
  ·obtain⟨b,off,rfl,hbb,hcap,_⟩:=hl.open (show 0<L.length by omega)
   obtain⟨bk,offk,rfl,hbk,hcapk,_⟩:=hk.open (show 0<K.length by omega)
   have hcl:=Tryz.slices_Clone_int b off L.length c L w YA (by omega) (Qdq hl)
   rw [List.take_length] at hcl
   have HLEN:Hid _:=hlen
   have hpos:0<L.length:=by omega
   clear hlen hz
   go_enter Tryz.func121,Tryz.ntmps121
   go_wp2_with fail
   refine hcl.mono ?_
   clear hcl
   rintro e w2 ⟨v2,rfl,hO2,hn2,hb2⟩
   rcases hO2.2 with ⟨h0,_⟩ | ⟨g2,cap2,cur2,rfl,hbase,hblk,h1,h2,h3,h4⟩
   ·exact absurd h0 hn2
   have hgl:=(Array.getElem?_eq_some_iff.1 hblk).1
   have hso:=Tryz.slices_Sort_int g2 0 cap2 L w2 (holds_of_blockI hblk (by simpa using h4)) hgl (by omega)
   go_wp2_with fail
   refine hso.mono ?_
   clear hso
   rintro e w3 ⟨rfl,nn,os,hw3⟩
   have hO3:w3.ownsRow w.heap.size 3 1 (.slice (some ⟨g2,0,none⟩) L.length cap2) L.length ((sortL L).map (Value.int .i64)):=by
    rw [hw3]
    exact ownsRow_sortedI (ss:=L) (ts:=sortL L) (Qb0 L) hbase hblk h1 h2 h3
   have hg3:w2.grownBy w3 (some g2):=by
    rw [hw3]
    exact grownBy_sortedI _
   have hb3:Below w.heap.size w w3:=hb2.grown hg3 hb2.size (fun q e=>by cases e;exact hbase)
   have hI3:Ints w3.heap.size w3 (.slice (some ⟨g2,0,none⟩) (sortL L).length cap2) (sortL L):=by
    refine QjV (base:=w.heap.size) ?_
    rw [Qb0]
    exact hO3
   have hk3:=hk.go hb3
   have heq:=Tryz.slices_Equal_int g2 0 L.length cap2 bk offk K.length ck (sortL L) K _ (by rw [Qb0];exact YA) YA (by omega) (by omega) (Qdq hI3) (Qdq hk3)
   have e1:(sortL L).take L.length=sortL L:=List.take_of_length_le (by rw [Qb0];exact YA)
   rw [e1,List.take_length] at heq
   have hbe:(sortL L==K)=decide (sortL L=K):=by
    by_cases h:sortL L=K
    ·rw [decide_eq_true h,beq_iff_eq];exact h
    ·rw [decide_eq_false h,beq_eq_false_iff_ne];exact h
   rw [hbe] at heq
   clear e1 hbe hI3 hk3 hO3 hg3 hO2 hblk h1 h2 h3 h4 hw3
   have HB3:Hid _:=hb3
   clear hb3
   obtain⟨res,HRES⟩:∃ res,Hid (decide (sortL L=K)=res):=⟨_,rfl⟩
   rw [HRES.out] at heq
   go_wp2_with fail
   refine heq.mono ?_
   rintro e w4 ⟨rfl,q,rfl⟩
   go_wp2
   go_ret
   exact⟨by rw [HRES.out];rfl,Qab HB3.out q⟩
 ·have hlen':((L.length:Int) != (K.length:Int))=true:=by
   rw [bne_iff_ne];omega
  have hE:decide (sortL L=K)=false:=decide_eq_false fun e=>hlen (by rw [← e,Qb0])
  rw [hE]
  clear hE hlen
  go_enter Tryz.func121,Tryz.ntmps121
  go_wp2
  go_ret
  exact⟨rfl,YD⟩
theorem Qo4 {r K:List (List Int)}{j:Nat}(h1:j<r.length)(h2:j<K.length)(h:sortL r[j]≠K[j]):decide (r.map sortL=K)=false:=decide_eq_false fun e=>h (by
 have:=congrArg (fun L=>L[j]?) e
 simp only [YH,YB h1,YB h2,Option.map_some,Option.some.injEq] at this
 exact this)
theorem Qo5 {r K:List (List Int)}(hl:r.length=K.length)(h:∀ (i:Nat) (h1:i<r.length) (h2:i<K.length),sortL r[i]=K[i]):decide (r.map sortL=K)=true:=decide_eq_true (by
 refine List.ext_getElem (by simpa using hl) fun i h1 h2=>?_
 rw [List.getElem_map]
 exact h i (by simpa using h1) h2)
theorem Qpw (r K:List (List Int))(hK:∀ x∈K,x.length≤4194304)(hKl:K.length≤4194304)(sr sk:Value)(w:World)(hr:Lsts w.heap.size w sr r)(hk:Lsts w.heap.size w sk K):
  Calls Tryz.prog 119 #[sr,sk,.func (.func 121) #[] #[]] w fun e w'=>e = .returned (.bool (decide (r.map sortL=K)))∧Below w.heap.size w w':=by
 have hent:∀ (args:Array Value) (W:World),(callFunc 121 args).run Tryz.prog W = .ok (.enter 121 args) W:=fun args W=>by kernel_rfl
 obtain⟨p,c,rfl⟩:=hr.len
 obtain⟨pk,ck,rfl⟩:=hk.len
 by_cases hlen:r.length=K.length
 ·have hlen':((r.length:Int) != (K.length:Int))=false:=by rw [hlen];simp
  have HLEN:Hid _:=hlen
  have HR0:Hid (Lsts w.heap.size w (.slice p r.length c) r):=hr
  have HK0:Hid (Lsts w.heap.size w (.slice pk K.length ck) K):=hk
  have HK:Hid _:=hK
  have hrl:r.length≤4194304:=by omega
  clear hlen hr hk hK
  go_enter Tryz.func119,Tryz.ntmps119
  go_wp2
  go_loopw [17] (fun iv wr=>∃ j:Nat,j≤r.length∧iv = .int .i64 j∧Hid (∀ (i:Nat) (h1:i<r.length) (h2:i<K.length),i<j→sortL r[i]=K[i])∧Below w.heap.size w wr) (fun i _=>r.length-(intOf i).toNat)
  case atStart=>exact⟨0,YN,rfl,fun i _ _ h=>by omega,YD⟩
  case round=>
   obtain⟨j,hj,rfl,HS,hb⟩:=hrel
   by_cases hlt:j<r.length
   ·have hjl:(j:Int)<(r.length:Int):=by omega
    have hlk:j<K.length:=by have:=HLEN.out;omega
    have hjk:(j:Int)<(K.length:Int):=by omega
    obtain⟨b,off,rfl,hbb,hcap,px,cx,hIx,c0⟩:=(HR0.out.below hb).cellAt hlt
    obtain⟨bk,offk,rfl,hbk,hcapk,pk',ck',hIk,k0⟩:=(HK0.out.below hb).cellAt hlk
    have hc:=Qic r[j] K[j] (HK.out _ (YG hlk)) _ _ wr (hIx.mono hb.size) (hIk.mono hb.size)
    by_cases he:sortL r[j]=K[j]
    ·rw [decide_eq_true he] at hc
     have HS2:Hid (∀ (i:Nat) (h1:i<r.length) (h2:i<K.length),i<j+1→sortL r[i]=K[i]):=fun i h1 h2 h=>by
      by_cases e:i=j
      ·subst e;exact he
      ·exact HS.out i h1 h2 (by omega)
     have HLT:Hid (j<r.length):=hlt
     clear he HS hIx hIk
     generalize r[j]=X at c0 hc
     generalize K[j]=Y at k0 hc
     clear hlt hlk
     go_wp2_with fail
     refine hc.mono ?_
     clear hc
     rintro e w2 ⟨rfl,hb2⟩
     have HB2:Hid _:=hb.trans (hb2.mono hb.size)
     clear hb2
     go_wp2
     exact⟨⟨j+1,HLT.out,by go_num,HS2.out,HB2.out⟩,by have:=HLT.out;simp [intOf];omega⟩
    ·rw [decide_eq_false he] at hc
     have HE:Hid _:=Qo4 hlt hlk he
     have HLT:Hid (j<r.length):=hlt
     clear he HS hIx hIk
     generalize r[j]=X at c0 hc
     generalize K[j]=Y at k0 hc
     clear hlt hlk
     go_wp2_with fail
     refine hc.mono ?_
     clear hc
     rintro e w2 ⟨rfl,hb2⟩
     have HB2:Hid _:=hb.trans (hb2.mono hb.size)
     clear hb2
     go_wp2
     go_ret
     exact⟨by rw [HE.out];rfl,HB2.out⟩
   ·obtain rfl:j=r.length:=by omega
    have HE:Hid _:=Qo5 HLEN.out fun i h1 h2=>HS.out i h1 h2 h1
    clear HS
    go_wp2
    go_ret
    exact⟨by rw [HE.out];rfl,hb⟩
 ·have hlen':((r.length:Int) != (K.length:Int))=true:=by
   rw [bne_iff_ne];omega
  have hE:decide (r.map sortL=K)=false:=decide_eq_false fun e=>hlen (by rw [← e];simp)
  rw [hE]
  clear hE hlen
  go_enter Tryz.func119,Tryz.ntmps119
  go_wp2
  go_ret
  exact⟨rfl,YD⟩
theorem QfG {N:Nat}{l:List Ed}{r:List (List Int)}(hR:RightG (N:Int) l):r.map sortL=nearL N l↔SysR N l r:=by
 constructor
 ·intro h
  have hl:r.length=N:=by have:=congrArg List.length h;rw [Qa7] at this;simpa using this
  refine⟨hl,fun v hv=>?_⟩
  have h1:=congrArg (fun L=>L[v]?) h
  simp only [YH,QfY hv,YB (show v<r.length by omega),Option.map_some,Option.some.injEq] at h1
  rw [YC,YB (show v<r.length by omega)]
  exact (QgF (Qh4 hR _)).1 h1
 ·intro h
  refine List.ext_getElem (by rw [Qa7];simpa using h.len) fun i h1 h2=>?_
  rw [Qa7] at h2
  have h3:=h.perm i h2
  have h4:i<r.length:=by rw [h.len];exact h2
  rw [YC,YB h4] at h3
  have h5:=QfY (l:=l) h2
  rw [YB (by rw [Qa7];exact h2),Option.some.injEq] at h5
  rw [List.getElem_map,h5]
  exact (QgF (Qh4 hR _)).2 h3
def sysK (n:Int)(l:List Ed)(r:List (List Int)):Int:=if rightK n l=0 then (if r.map sortL=nearL n.toNat l then 0 else 12) else 1
theorem QhC {N:Nat}{l:List Ed}{r:List (List Int)}(hR:RightG (N:Int) l)(hS:SysR N l r):sysK (N:Int) l r=0:=by
 unfold sysK
 rw [if_pos (right_iff.2 hR)]
 exact if_pos ((QfG hR).2 hS)
theorem Qnl {N:Nat}{l:List Ed}{r:List (List Int)}(hR:RightG (N:Int) l)(hS:¬ SysR N l r):sysK (N:Int) l r=12:=by
 unfold sysK
 rw [if_pos (right_iff.2 hR)]
 exact if_neg fun h=>hS ((QfG hR).1 h)
theorem QdD (n:Int)(l:List Ed)(r:List (List Int))(sv rv:Value)(w:World)(hl:Edges w.heap.size w sv l)(hr:Lsts w.heap.size w rv r):
  Calls Tryz.prog 102 #[.agg #[.int .i64 n,sv],rv] w fun e w'=>e = .returned (.int .i64 (sysK n l r))∧Below w.heap.size w w':=by
 have hgA:Grew w (w.alloc (.cells #[.int .i64 n,sv] 24)):=(Grew.refl w).alloc _
 have hX:Blk 24 (w.alloc (.cells #[.int .i64 n,sv] 24)) w.heap.size [.int .i64 n,sv]:=heap_alloc_new w _
 have q0:=hX.cell (j:=0) rfl
 have q1:=hX.cell (j:=1) rfl
 have hrc:=Qbz n l sv _ (hl.go hgA.below)
 have HX:Hid (Blk 24 (w.alloc (.cells #[.int .i64 n,sv] 24)) w.heap.size [.int .i64 n,sv]):=hX
 have HL:Hid (Edges w.heap.size w sv l):=hl
 have HR0:Hid (Lsts w.heap.size w rv r):=hr
 have HBA:Hid _:=hgA.below
 clear hX hl hr hgA
 go_enter Tryz.func102,Tryz.ntmps102
 go_wp2_with fail
 generalize w.alloc (.cells #[.int .i64 n,sv] 24)=w1 at *
 refine hrc.mono ?_
 clear hrc
 rintro e w2 ⟨rfl,hg2⟩
 have hX2:=HX.out.go hg2.below
 have y0:=hX2.cell (j:=0) rfl
 have y1:=hX2.cell (j:=1) rfl
 have HB2:Hid (Below w.heap.size w w2):=HBA.out.trans (hg2.below.mono HBA.out.size)
 by_cases hk:rightK n l=0
 ·have hR:=right_iff.1 hk
  obtain⟨N,rfl⟩:∃ N:Nat,n=(N:Int):=⟨n.toNat,by have:=hR.n0;omega⟩
  have hne:=QnP N l hR sv w2 (HL.out.go HB2.out)
  have hn1:=hR.n1
  have hm1:=hR.m1
  rw [hk]
  have HR:Hid _:=hR
  clear hk hX2 hR q0 q1
  go_wp2_with fail
  refine hne.mono ?_
  clear hne
  rintro e w3 ⟨nv,rfl,hN3,hb3⟩
  have HB3:Hid (Below w.heap.size w w3):=HB2.out.trans (hb3.mono HB2.out.size)
  have heq:=Qpw r (nearL N l) (fun x hx=>by
   obtain⟨v,hv,rfl⟩:=List.mem_map.1 hx
   exact Nat.le_trans (QaX _ _) hm1) (by rw [Qa7];omega) rv nv w3 (HR0.out.go HB3.out) hN3
  clear y0 y1 hb3 hN3
  by_cases hS:SysR N l r
  ·rw [decide_eq_true ((QfG HR.out).2 hS)] at heq
   have HE:Hid _:=QhC HR.out hS
   clear hS
   go_wp2_with fail
   refine heq.mono ?_
   clear heq
   rintro e w4 ⟨rfl,hb4⟩
   go_wp2
   go_ret
   exact⟨by rw [HE.out];rfl,HB3.out.trans (hb4.mono HB3.out.size)⟩
  ·rw [decide_eq_false fun e=>hS ((QfG HR.out).1 e)] at heq
   have HE:Hid (sysK (N:Int) l r=12):=Qnl HR.out hS
   clear hS
   go_wp2_with fail
   refine heq.mono ?_
   clear heq
   rintro e w4 ⟨rfl,hb4⟩
   go_wp2
   go_ret
   exact⟨by rw [HE.out];rfl,HB3.out.trans (hb4.mono HB3.out.size)⟩
 ·have HE:Hid (sysK n l r=1):=if_neg hk
  generalize rightK n l=k at *
  go_wp2
  go_ret
  exact⟨by rw [HE.out];rfl,HB2.out⟩
def QaJ (N:Nat)(l:List Ed)(r:List (List Int)):List (List Dt):=(Qae (nxD r) (2*l.length+1) (Qal N l) (Qal N l).length).1
theorem QmI (N:Nat)(l:List Ed)(hR:RightG (N:Int) l)(r:List (List Int))(hS:SysR N l r)(sv rv:Value)(w:World)(hl:Edges w.heap.size w sv l)(hr:Lsts w.heap.size w rv r):
  Calls Tryz.prog 81 #[.agg #[.int .i64 (N:Int),sv],rv] w fun e w'=>∃ lv svs,e = .returned (.tuple #[lv,.int .i64 0])∧GrpD w.heap.size lv svs (QaJ N l r) w'∧Below w.heap.size w w':=by
 have hbA:Below w.heap.size w (w.alloc (.cells #[.int .i64 (N:Int),sv] 24)):=YD.alloc YA _
 have hX:Blk 24 (w.alloc (.cells #[.int .i64 (N:Int),sv] 24)) w.heap.size [.int .i64 (N:Int),sv]:=heap_alloc_new w _
 have q0:=hX.cell (j:=0) rfl
 have q1:=hX.cell (j:=1) rfl
 have hrc:=QdD (N:Int) l r sv rv _ (hl.go hbA) (hr.go hbA)
 rw [QhC hR hS] at hrc
 have hent:∀ (args:Array Value) (W:World),(callFunc 106 args).run Tryz.prog W = .ok (.enter 106 args) W:=fun args W=>by kernel_rfl
 have hgr:=fun W h1 h2 fb (hfb:fb<W.heap.size) h3=>QdP N l hR r hS 106 #[.pointer (some ⟨fb,0,none⟩)] hent (fun fs bs W'=>∃ lv svs,IF W W.heap.size fb fs bs W' lv svs) sv rv W h1 h2 h3 (fun fs bs A B ⟨lv,svs,h⟩ hSt=>⟨lv,svs,h.still hfb hSt⟩) (Qhg W W.heap.size fb hfb _)
 have HX:Hid (Blk 24 (w.alloc (.cells #[.int .i64 (N:Int),sv] 24)) w.heap.size [.int .i64 (N:Int),sv]):=hX
 have HL:Hid (Edges w.heap.size w sv l):=hl
 have HR0:Hid (Lsts w.heap.size w rv r):=hr
 have HBA:Hid _:=hbA
 clear hX hl hr hbA hR hS
 have HGR:Hid _:=hgr
 clear hgr
 go_enter Tryz.func81,Tryz.ntmps81
 go_wp2_with fail
 generalize w.alloc (.cells #[.int .i64 (N:Int),sv] 24)=w1 at *
 refine hrc.mono ?_
 clear hrc
 rintro e w2 ⟨rfl,hb2⟩
 have hX2:=HX.out.go hb2
 have hB2:Below w.heap.size w w2:=HBA.out.trans (hb2.mono HBA.out.size)
 have hbB:Below w2.heap.size w2 (w2.alloc (.cells #[.slice none 0 0] 75)):=YD.alloc YA _
 have hV:Blk 75 (w2.alloc (.cells #[.slice none 0 0] 75)) w2.heap.size [.slice none 0 0]:=heap_alloc_new w2 _
 have hX3:=hX2.go hbB
 have y0:=hX3.cell (j:=0) rfl
 have y1:=hX3.cell (j:=1) rfl
 have hB3:=hB2.trans (hbB.mono hB2.size)
 have hs3:(w2.alloc (.cells #[.slice none 0 0] 75)).heap.size=w2.heap.size+1:=by simp
 have hg:=HGR.out (w2.alloc (.cells #[.slice none 0 0] 75)) (HL.out.go hB3) (HR0.out.go hB3) w2.heap.size (by omega) ⟨_,_,GrpD.start _ _,hV,fun q hq=>by simp [Value.ownBlock] at hq,fun sv hs=>by simp at hs,rfl,rfl,rfl,YA,fun q _ _=>rfl,YA⟩
 have HB2:Hid (Below w.heap.size w w2):=hB2
 have HB3:Hid (Below w.heap.size w (w2.alloc (.cells #[.slice none 0 0] 75))):=hB3
 have HS3:Hid _:=hs3
 clear hX2 hX3 hV hB2 hbB hB3 hb2 HGR HX q0 q1 hs3
 go_wp2_with fail
 refine hg.mono ?_
 clear hg
 rintro e w4 ⟨rfl,bs,lv,svs,hIF⟩
 have z0:=hIF.var.cell (j:=0) rfl
 obtain⟨pl,cl,rfl⟩:=Qag hIF.grp.own
 have HF:Hid (∃ lv svs',Value.slice pl svs.length cl=lv∧GrpD w.heap.size lv svs' (QaJ N l r) w4∧Below w.heap.size w w4):=by
  have hs:=HS3.out
  have h2:=HB2.out.size
  refine⟨_,svs,rfl,hIF.grp.base (by omega),?_⟩
  have h3:=HB3.out
  exact⟨hIF.os.trans h3.os,hIF.tape.trans h3.tape,hIF.output.trans h3.output,by have:=hIF.size;omega,fun q hq=>(hIF.low q (by omega) (by omega)).trans (h3.block q hq)⟩
 clear hIF y0 y1
 go_wp2
 refine bodyPost_ret (results_tmp2 rfl _ _ _) rfl ?_
 obtain⟨lv,svs',e,h1,h2⟩:=HF.out
 exact⟨lv,svs',by rw [← e];rfl,h1,h2⟩
def compC (N:Nat)(l:List Ed):List (List Int):=rcAt (labAt N l N) N N
theorem QgL {N:Nat}{l:List Ed}(hR:RightG (N:Int) l):QdR (walkW N l).root:=by
 rw [QcG hR]
 intro x hx
 obtain⟨v,hv,rfl⟩:=List.getElem_of_mem hx
 have hvN:v<N:=by rw [QaC] at hv;exact hv
 obtain⟨y,hy,hyN,_⟩:=QbE (Qaw hR) hvN
 have e:(labAt N l N).getD v 0=(labAt N l N)[v]:=by rw [YC,YB hv];rfl
 rw [← e,hy,QaC]
 omega
theorem Qjo {N:Nat}{l:List Ed}(hR:RightG (N:Int) l):CompsOK N (compC N l):=by
 have hL:=Qg1 (Qaw hR)
 have hmm:∀ {r:Nat} {v:Int},v∈memAt (labAt N l N) r N→∃ u:Nat,v=(u:Int)∧u<N:=fun {r v} h=>by
  unfold memAt at h
  obtain⟨u,hu,rfl⟩:=List.mem_map.1 h
  exact⟨u,rfl,List.mem_range.1 (List.mem_filter.1 hu).1⟩
 refine⟨QfP _ _ _,fun hp=>?_,fun x hx=>?_,fun x hx=>?_,fun x hx v hv=>?_⟩
 ·obtain⟨x,h1,h2,h3⟩:=hL 0 (by rw [QaC];exact hp)
  have hx0:x=0:=by omega
  subst hx0
  have hm:0∈Qby (labAt N l N) N:=rootsN_mem.2 ⟨hp,h1⟩
  unfold compC
  rw [QdW,List.length_map]
  exact List.length_pos_of_mem hm
 all_goals
  unfold compC at hx
  rw [QdW] at hx
  obtain⟨r,hr,rfl⟩:=List.mem_map.1 hx
  obtain⟨h1,h2⟩:=rootsN_mem.1 hr
 ·have:(r:Int)∈memAt (labAt N l N) r N:=by
   unfold memAt
   refine List.mem_map.2 ⟨r,List.mem_filter.2 ⟨List.mem_range.2 h1,?_⟩,rfl⟩
   simp only [Bool.and_eq_true,decide_eq_true_eq]
   exact⟨YA,h2⟩
  intro e
  rw [e] at this
  simp at this
 ·unfold memAt
  rw [List.length_map]
  refine Nat.le_trans (List.length_filter_le _ _) ?_
  simp
 ·exact hmm hv
theorem QmW (N:Nat)(l:List Ed)(hR:RightG (N:Int) l)(sv:Value)(W:World)(hl:Edges W.heap.size W sv l):
  Calls Tryz.prog 122 #[.agg #[.int .i64 (N:Int),sv]] W fun e w'=>∃ lv,e = .returned lv∧Lsts w'.heap.size w' lv (compC N l)∧Below W.heap.size W w':=by
 refine (Qe6 N l hR (QgL hR) (Qcd hR).lenR sv W hl).mono ?_
 rintro e w' ⟨lv,svs,h0,rfl,hG,hb⟩
 rw [Qd9 hR] at hG
 exact⟨lv,rfl,hG.lsts,hb⟩
def numsL (N:Nat)(l:List Ed)(r:List (List Int)):List Int:=numsM N l r (compC N l) (QaJ N l r)
theorem QlL (N:Nat)(l:List Ed)(r:List (List Int)):(numsL N l r).length=(compC N l).length:=by
 unfold numsL numsM
 rw [Qf1,Ql9,Qf2]
theorem QnK (N:Nat)(l:List Ed)(hR:RightG (N:Int) l)(r:List (List Int))(hS:SysR N l r)(sv rv:Value)(w:World)(hl:Edges w.heap.size w sv l)(hr:Lsts w.heap.size w rv r):
  Calls Tryz.prog 103 #[.agg #[.int .i64 (N:Int),sv],rv] w fun e w'=>∃ lv,e = .returned lv∧Ints w'.heap.size w' lv (numsL N l r)∧Below w.heap.size w w':=
 Qh2 N l hR r hS (compC N l) (Qjo hR) sv rv w hl hr (fun W h=>QmW N l hR sv W h)
theorem Qkf (L:List Int)(hL:L.length≤4194304)(sv:Value)(w:World)(h:Ints w.heap.size w sv L):
  Calls Tryz.prog 74 #[sv,.func (.func 104) #[] #[]] w fun e w'=>w'=w∧∃ k:Int,e = .returned (.int .i64 k)∧(0≤k↔∃ x∈L,x≠2):=by
 have hent:∀ (args:Array Value) (W:World),(callFunc 104 args).run Tryz.prog W = .ok (.enter 104 args) W:=fun args W=>by kernel_rfl
 have hp1:∀ (x:Int) (W:World),Calls Tryz.prog 104 #[.int .i64 x] W fun e w'=>e = .returned (.bool (x != 2))∧w'=W:=fun x W=>by
  go_enter Tryz.func104,Tryz.ntmps104
  go_wp2
  go_ret
  exact⟨rfl,rfl⟩
 obtain⟨p,c,rfl⟩:=h.len
 have HI:Hid (Ints w.heap.size w (.slice p L.length c) L):=h
 clear h
 go_enter Tryz.func74,Tryz.ntmps74
 go_wp2
 go_loopw [8] (fun iv wr=>∃ j:Nat,j≤L.length∧iv = .int .i64 j∧Hid (∀ (i:Nat) (h1:i<L.length),i<j→L[i]=2)∧wr=w) (fun i _=>L.length-(intOf i).toNat)
 case atStart=>exact⟨0,YN,rfl,fun i _ h=>by omega,rfl⟩
 case round=>
  obtain⟨j,hj,rfl,HS,rfl⟩:=hrel
  by_cases hlt:j<L.length
  ·have hjl:(j:Int)<(L.length:Int):=by omega
   obtain⟨b,off,rfl,hbb,hcap,hc⟩:=HI.out.open hlt
   have c0:=hc wr YD j hlt
   by_cases he:L[j]=2
   ·have HS2:Hid (∀ (i:Nat) (h1:i<L.length),i<j+1→L[i]=2):=fun i h1 h=>by
     by_cases e:i=j
     ·subst e;exact he
     ·exact HS.out i h1 (by omega)
    rw [he] at c0
    have HLT:Hid (j<L.length):=hlt
    have hcl:=hp1 2 wr
    rw [show ((2:Int) != 2)=false from rfl] at hcl
    clear he HS hlt hc hp1
    go_wp2_with fail
    refine hcl.mono ?_
    clear hcl
    rintro e w2 ⟨rfl,rfl⟩
    go_wp2
    exact⟨⟨j+1,HLT.out,by go_num,HS2.out,trivial⟩,by have:=HLT.out;simp [intOf];omega⟩
   ·have HE:Hid (∃ x∈L,x≠2):=⟨L[j],YG hlt,he⟩
    have hcl:=hp1 L[j] wr
    rw [show (L[j] != 2)=true from bne_iff_ne.2 he] at hcl
    generalize L[j]=x at c0 hcl
    clear he HS hlt hc hp1
    go_wp2_with fail
    refine hcl.mono ?_
    clear hcl
    rintro e w2 ⟨rfl,rfl⟩
    go_wp2
    go_ret
    exact⟨rfl,(j:Int),rfl,fun _=>HE.out,fun _=>by omega⟩
  ·obtain rfl:j=L.length:=by omega
   have HE:Hid (¬ ∃ x∈L,x≠2):=fun ⟨x,hx,hn⟩=>by
    obtain⟨i,hi,rfl⟩:=List.getElem_of_mem hx
    exact hn (HS.out i hi hi)
   clear HS
   go_wp2
   go_ret
   exact⟨rfl,-1,rfl,fun h=>by omega,fun h=>absurd h HE.out⟩
theorem Qgc (L:List Int)(hL:L.length≤4194304)(sv:Value)(w:World)(h:Ints w.heap.size w sv L):
  Calls Tryz.prog 46 #[sv,.func (.func 104) #[] #[]] w fun e w'=>e = .returned (.bool (L.any fun x=>decide (x≠2)))∧w'=w:=by
 have hi:=Qkf L hL sv w h
 obtain⟨p,c,rfl⟩:=h.len
 clear h
 have HA:Hid ((L.any fun x=>decide (x≠2))=true↔∃ x∈L,x≠2):=by unfold Hid;rw [List.any_eq_true];simp
 go_enter Tryz.func46,Tryz.ntmps46
 go_wp2_with fail
 refine hi.mono ?_
 clear hi
 rintro e w2 ⟨rfl,k,rfl,hk⟩
 have HK:Hid (decide (0≤k)=(L.any fun x=>decide (x≠2))):=by
  unfold Hid
  by_cases h:0≤k
  ·rw [decide_eq_true h,HA.out.2 (hk.1 h)]
  ·rw [decide_eq_false h]
   cases hc:(L.any fun x=>decide (x≠2)) with
   | false=>rfl
   | true=>exact absurd (hk.2 (HA.out.1 hc)) h
 clear hk
 go_wp2
 go_ret
 exact⟨by rw [← HK.out];rfl,rfl⟩
def QdJ (L:List Int):Int:=if (L.any fun x=>decide (x≠2)) then 12 else 0
theorem Qlt (N:Nat)(l:List Ed)(hR:RightG (N:Int) l)(r:List (List Int))(hS:SysR N l r)(sv rv:Value)(w:World)(hl:Edges w.heap.size w sv l)(hr:Lsts w.heap.size w rv r):
  Calls Tryz.prog 80 #[.agg #[.int .i64 (N:Int),sv],rv] w fun e w'=>e = .returned (.int .i64 (QdJ (numsL N l r)))∧Below w.heap.size w w':=by
 have hbA:Below w.heap.size w (w.alloc (.cells #[.int .i64 (N:Int),sv] 24)):=YD.alloc YA _
 have hX:Blk 24 (w.alloc (.cells #[.int .i64 (N:Int),sv] 24)) w.heap.size [.int .i64 (N:Int),sv]:=heap_alloc_new w _
 have q0:=hX.cell (j:=0) rfl
 have q1:=hX.cell (j:=1) rfl
 have hrc:=QdD (N:Int) l r sv rv _ (hl.go hbA) (hr.go hbA)
 rw [QhC hR hS] at hrc
 have hnl:(numsL N l r).length≤4194304:=by
  rw [QlL]
  have h1:=(Qjo hR).few
  have h2:=hR.n1
  omega
 have HX:Hid (Blk 24 (w.alloc (.cells #[.int .i64 (N:Int),sv] 24)) w.heap.size [.int .i64 (N:Int),sv]):=hX
 have HN:Hid (∀ W,Below w.heap.size w W→Calls Tryz.prog 103 #[.agg #[.int .i64 (N:Int),sv],rv] W fun e w'=>∃ lv,e = .returned lv∧Ints w'.heap.size w' lv (numsL N l r)∧Below W.heap.size W w'):=fun W h=>QnK N l hR r hS sv rv W (hl.go h) (hr.go h)
 have HBA:Hid _:=hbA
 clear hX hl hr hbA hR hS
 go_enter Tryz.func80,Tryz.ntmps80
 go_wp2_with fail
 generalize w.alloc (.cells #[.int .i64 (N:Int),sv] 24)=w1 at *
 refine hrc.mono ?_
 clear hrc
 rintro e w2 ⟨rfl,hb2⟩
 have hX2:=HX.out.go hb2
 have hB2:Below w.heap.size w w2:=HBA.out.trans (hb2.mono HBA.out.size)
 have y0:=hX2.cell (j:=0) rfl
 have y1:=hX2.cell (j:=1) rfl
 have hn:=HN.out w2 hB2
 clear hX2 HX HN q0 q1 hb2
 go_wp2_with fail
 refine hn.mono ?_
 clear hn
 rintro e w3 ⟨lv,rfl,hI,hb3⟩
 have hcf:=Qgc (numsL N l r) hnl lv w3 hI
 obtain⟨pl,cl,rfl⟩:=hI.len
 clear hI
 have HB3:Hid (Below w.heap.size w w3):=hB2.trans (hb3.mono hB2.size)
 clear hb3 y0 y1 hB2
 generalize hL:numsL N l r=L at *
 cases hb:(L.any fun x=>decide (x≠2)) with
 | false=>
  have HE:Hid (QdJ L=0):=by unfold Hid QdJ;rw [hb];rfl
  rw [hb] at hcf
  clear hb
  go_wp2_with fail
  refine hcf.mono ?_
  clear hcf
  rintro e w4 ⟨rfl,rfl⟩
  go_wp2
  go_ret
  exact⟨by rw [hL,HE.out];rfl,HB3.out⟩
 | true=>
  have HE:Hid (QdJ L=12):=by unfold Hid QdJ;rw [hb];rfl
  rw [hb] at hcf
  clear hb
  go_wp2_with fail
  refine hcf.mono ?_
  clear hcf
  rintro e w4 ⟨rfl,rfl⟩
  go_wp2
  go_ret
  exact⟨by rw [hL,HE.out];rfl,HB3.out⟩
theorem Qif (N:Nat)(l:List Ed)(hR:RightG (N:Int) l)(r:List (List Int))(hS:SysR N l r)(hP:QdJ (numsL N l r)=0)(sv rv:Value)(w:World)(hl:Edges w.heap.size w sv l)(hr:Lsts w.heap.size w rv r):
  Calls Tryz.prog 57 #[.agg #[.int .i64 (N:Int),sv],rv] w fun e w'=>∃ lv svs,e = .returned (.tuple #[lv,.int .i64 0])∧GrpD w.heap.size lv svs (QaJ N l r) w'∧Below w.heap.size w w':=by
 have hbA:Below w.heap.size w (w.alloc (.cells #[.int .i64 (N:Int),sv] 24)):=YD.alloc YA _
 have hX:Blk 24 (w.alloc (.cells #[.int .i64 (N:Int),sv] 24)) w.heap.size [.int .i64 (N:Int),sv]:=heap_alloc_new w _
 have q0:=hX.cell (j:=0) rfl
 have q1:=hX.cell (j:=1) rfl
 have hrc:=Qlt N l hR r hS sv rv _ (hl.go hbA) (hr.go hbA)
 rw [hP] at hrc
 have HX:Hid (Blk 24 (w.alloc (.cells #[.int .i64 (N:Int),sv] 24)) w.heap.size [.int .i64 (N:Int),sv]):=hX
 have HN:Hid (∀ W,Below w.heap.size w W→Calls Tryz.prog 81 #[.agg #[.int .i64 (N:Int),sv],rv] W fun e w'=>∃ lv svs,e = .returned (.tuple #[lv,.int .i64 0])∧GrpD W.heap.size lv svs (QaJ N l r) w'∧Below W.heap.size W w'):=fun W h=>QmI N l hR r hS sv rv W (hl.go h) (hr.go h)
 have HBA:Hid _:=hbA
 clear hX hl hr hbA hR hS
 go_enter Tryz.func57,Tryz.ntmps57
 go_wp2_with fail
 generalize w.alloc (.cells #[.int .i64 (N:Int),sv] 24)=w1 at *
 refine hrc.mono ?_
 clear hrc
 rintro e w2 ⟨rfl,hb2⟩
 have hX2:=HX.out.go hb2
 have hB2:Below w.heap.size w w2:=HBA.out.trans (hb2.mono HBA.out.size)
 have y0:=hX2.cell (j:=0) rfl
 have y1:=hX2.cell (j:=1) rfl
 have hn:=HN.out w2 hB2
 have HB2:Hid (Below w.heap.size w w2):=hB2
 clear hX2 HX HN q0 q1 hb2 hB2
 go_wp2_with fail
 refine hn.mono ?_
 clear hn
 rintro e w3 ⟨lv,svs,rfl,hG,hb3⟩
 have HB3:Hid (Below w.heap.size w w3):=HB2.out.trans (hb3.mono HB2.out.size)
 have HG:Hid (GrpD w.heap.size lv svs (QaJ N l r) w3):=hG.base HB2.out.size
 clear hb3 y0 y1 hG
 go_wp2
 refine bodyPost_ret (results_tmp2 rfl _ _ _) rfl ?_
 exact⟨lv,svs,rfl,HG.out,HB3.out⟩
def dualL (fs:List (List Dt))(l:List Ed):List Ed:=l.map fun e=>(faceOf fs (e.1,e.2.1),faceOf fs (e.2.1,e.1),e.2.2)
theorem QeX (fs:List (List Dt))(l:List Ed):(dualL fs l).length=l.length:=List.length_map ..
def dualH (fs:List (List Dt))(l:List Ed)(j:Nat):List Ed:=dualL fs (l.take j)++List.replicate (l.length-j) (0,0,0)
theorem Qkx (fs:List (List Dt))(l:List Ed):dualH fs l 0=List.replicate l.length (0,0,0):=by simp [dualH,dualL]
theorem Qkz (fs:List (List Dt))(l:List Ed):dualH fs l l.length=dualL fs l:=by simp [dualH]
theorem QmP (fs:List (List Dt))(l:List Ed){j:Nat}(h:j≤l.length):(dualH fs l j).length=l.length:=by
 simp [dualH,dualL]
 omega
theorem Qky (fs:List (List Dt))(l:List Ed){j:Nat}(h:j<l.length):(dualH fs l j).set j (faceOf fs (l[j].1,l[j].2.1),faceOf fs (l[j].2.1,l[j].1),l[j].2.2)=dualH fs l (j+1):=by
 unfold dualH dualL
 have e:l.length-j=(l.length-(j+1))+1:=by omega
 have h1:((l.take j).map fun e:Ed=>(faceOf fs (e.1,e.2.1),faceOf fs (e.2.1,e.1),e.2.2)).length=j:=by simp;omega
 rw [List.set_append,h1,if_neg (Nat.lt_irrefl j),Nat.sub_self,e,List.replicate_succ,List.set_cons_zero,List.take_add_one,YB h,List.map_append,List.append_assoc]
 rfl
theorem QjM {fn:Func}{p u:Tmp}(h:fn.results = #[.cell p 24,.tmp u]){tmps:Array Value}{w:World}{b:Nat}{x y:Value}(hp:tmps.getD p undef = .pointer (some ⟨b,0,none⟩))(h0:w.cell? ⟨b,0,none⟩=some x)(h1:w.cell? ⟨b,1,none⟩=some y):
  (results fn tmps).run Tryz.prog w = .ok (.tuple #[.agg #[x,y],tmps.getD u undef]) w:=by
 rw [results_cell_tmp h,hp]
 have a1:=Tryz.isAgg24
 have a2:=Tryz.sizeOf24
 go_simp
theorem Qom (n:Int)(l:List Ed)(hm:l.length≤4194304)(F:List (List Dt))(hf:F.length≤16777216)(hin:∀ x∈F,x.length≤16777216)(hnd:F.flatten.Nodup)(sv rv:Value)(w:World)(hl:Edges w.heap.size w sv l)
  (hP:∀ W,Below w.heap.size w W→Calls Tryz.prog 57 #[.agg #[.int .i64 n,sv],rv] W fun e w'=>∃ lv svs,e = .returned (.tuple #[lv,.int .i64 0])∧GrpD W.heap.size lv svs F w'∧Below W.heap.size W w') :
  Calls Tryz.prog 30 #[.agg #[.int .i64 n,sv],rv] w fun e w'=>∃ gv,e = .returned (.tuple #[.agg #[.int .i64 (F.length:Int),gv],.int .i64 0])∧Edges w'.heap.size w' gv (dualL F l)∧Below w.heap.size w w':=by
 obtain⟨p,c,rfl⟩:=hl.len
 obtain⟨i0,hi,hz0,hz1,hz2⟩:=info_parts infoE
 have hbA:Below w.heap.size w (w.alloc (.cells #[.int .i64 n,.slice p l.length c] 24)):=YD.alloc YA _
 have hX:Blk 24 (w.alloc (.cells #[.int .i64 n,.slice p l.length c] 24)) w.heap.size [.int .i64 n,.slice p l.length c]:=heap_alloc_new w _
 have hs1:(w.alloc (.cells #[.int .i64 n,.slice p l.length c] 24)).heap.size=w.heap.size+1:=by simp
 generalize hw1:w.alloc (.cells #[.int .i64 n,.slice p l.length c] 24)=w1 at *
 have hbB:Below w1.heap.size w1 (w1.alloc (.cells #[.int .i64 0,.slice none 0 0] 24)):=YD.alloc YA _
 have hY:Blk 24 (w1.alloc (.cells #[.int .i64 0,.slice none 0 0] 24)) w1.heap.size [.int .i64 0,.slice none 0 0]:=heap_alloc_new w1 _
 have hX1:=hX.go hbB
 rw [hs1] at hY
 have q0:=hX1.cell (j:=0) rfl
 have q1:=hX1.cell (j:=1) rfl
 have hbw2:Below w.heap.size w (w1.alloc (.cells #[.int .i64 0,.slice none 0 0] 24)):=hbA.trans (hbB.mono hbA.size)
 have hip:=hP _ hbw2
 have HL:Hid (Edges w.heap.size w (.slice p l.length c) l):=hl
 have HIN:Hid ((∀ x∈F,x.length≤16777216)∧F.flatten.Nodup):=⟨hin,hnd⟩
 have HX:Hid (Blk 24 (w1.alloc (.cells #[.int .i64 0,.slice none 0 0] 24)) w.heap.size [.int .i64 n,.slice p l.length c]):=hX1
 have HY:Hid (Blk 24 (w1.alloc (.cells #[.int .i64 0,.slice none 0 0] 24)) (w.heap.size+1) [.int .i64 0,.slice none 0 0]):=hY
 have HB2:Hid (Below w.heap.size w (w1.alloc (.cells #[.int .i64 0,.slice none 0 0] 24))):=hbw2
 clear hl hin hnd hP hX hX1 hY hbA hbB hbw2
 go_enter Tryz.func30,Tryz.ntmps30
 go_wp2_with fail
 generalize w1.alloc (.cells #[.int .i64 0,.slice none 0 0] 24)=w2 at *
 refine hip.mono ?_
 clear hip
 rintro e w3 ⟨lv,svs,rfl,hG,hb3⟩
 have hlen:=hG.len
 obtain⟨pl,cl,rfl⟩:=QcV hG.own
 rw [hlen] at hG
 have HG:Hid (LDr w3.heap.size w3 (.slice pl F.length cl) F):=by have:=hG.ldr;exact this
 have HX3:Hid (Blk 24 w3 w.heap.size [.int .i64 n,.slice p l.length c]):=HX.out.go hb3
 have HY3:Hid (Blk 24 w3 (w.heap.size+1) [.int .i64 0,.slice none 0 0]):=HY.out.go hb3
 have HB3:Hid (Below w.heap.size w w3):=HB2.out.trans (hb3.mono HB2.out.size)
 clear hG hb3 HX HY HB2 q0 q1
 have hly:=HY3.out.lt
 have q1:=HX3.out.cell (j:=1) rfl
 rw [hlen]
 go_wp2_with (at_make;refine wpList_make_full _ rfl _ _ 22 rfl w3.heap.size 50 i0 (.agg #[.int .i64 0,.int .i64 0,.int .i64 0]) 3 Tryz.underlying22 hi hz0 hz1 .i64 .i64 _ _ l.length rfl rfl rfl rfl (by rw [hz2];omega) (by unfold maxLen;omega) YA ?_;intro w4 hown hgrow;have hb4:Below w3.heap.size w3 w4:=YD.grown hgrow YA (fun k e=>by cases e);have x0:=(HX3.out.go hb4).cell (j:=0) rfl;have x1:=(HX3.out.go hb4).cell (j:=1) rfl)
 have hsd:=Qk8 n l hm F hf HIN.out.1 HIN.out.2 (.slice p l.length c) (.slice pl F.length cl) w4 (HL.out.go (HB3.out.trans (hb4.mono HB3.out.size))) (HG.out.go hb4)
 have hrow:=Blk.made hown
 rw [QmC,← Qkx F l] at hrow
 have HR4:Hid (Blk 50 w4 w3.heap.size (flat (dualH F l 0))):=hrow
 have HX4:Hid (Blk 24 w4 w.heap.size [.int .i64 n,.slice p l.length c]):=HX3.out.go hb4
 have HY4:Hid (Blk 24 w4 (w.heap.size+1) [.int .i64 0,.slice none 0 0]):=HY3.out.go hb4
 have HB4:Hid (Below w.heap.size w w4):=HB3.out.trans (hb4.mono HB3.out.size)
 clear hown hgrow hb4 hrow HX3 HY3 HB3 q1 x0 x1 HG HIN hi hz0 hz1 hz2
 generalize hge:w3.heap.size=g at *
 refine hsd.mono ?_
 clear hsd
 rintro e w5 ⟨gs,rfl,hgs,hB5,hb5⟩
 have hgl:=HR4.out.lt
 have hB0:=HR4.out.go hb5
 have HX5:Hid (Blk 24 w5 w.heap.size [.int .i64 n,.slice p l.length c]):=HX4.out.go hb5
 have HY5:Hid (Blk 24 w5 (w.heap.size+1) [.int .i64 0,.slice none 0 0]):=HY4.out.go hb5
 have HB5:Hid (Below w.heap.size w w5):=HB4.out.trans (hb5.mono HB4.out.size)
 clear hb5 HX4 HY4 HB4 HR4
 have hgg:g<gs:=by omega
 go_wp2
 go_loopw [29] (fun i wr=>∃ j:Nat,j≤l.length∧i = .int .i64 j∧Blk 50 wr g (flat (dualH F l j))∧Blk 80 wr gs (flatD (Qb1 F l))∧Below g w5 wr) (fun i _=>l.length-(intOf i).toNat)
 case atStart=>exact⟨0,YN,rfl,hB0,hB5,YD⟩
 case round=>
  clear hB0 hB5
  obtain⟨j,hj,rfl,hB,hS,hb⟩:=hrel
  rename World=>w6
  have hbX:=HX5.out
  have x1:=(hb.cell (p:=⟨w.heap.size,1,none⟩) (by simp only;omega)).trans (HX5.out.cell (j:=1) rfl)
  by_cases hlt:j<l.length
  ·obtain⟨b,off,rfl,hbb,hcap,hc,-⟩:=HL.out.open hlt
   obtain⟨-,-,c2⟩:=hc w6 (HB5.out.trans (hb.mono (by omega))) j hlt
   have hjl:(j:Int)<(l.length:Int):=by omega
   have HS:Hid _:=Qky F l hlt
   have hsl:=hS.lt
   obtain⟨d0,d1⟩:=QbV (L:=Qb1 F l) (j:=j) (x:=(faceOf F (l[j].1,l[j].2.1),faceOf F (l[j].2.1,l[j].1))) (by unfold Qb1;rw [YH,YB hlt];rfl)
   have s0:=hS.cell d0
   have s1:=hS.cell d1
   have hln:j<(dualH F l j).length:=by rw [QmP F l hj];exact hlt
   clear hc d0 d1
   generalize l[j].2.2=wt at *
   generalize faceOf F (l[j].1,l[j].2.1)=x at *
   generalize faceOf F (l[j].2.1,l[j].1)=y at *
   simp only at s0 s1
   have hbN:Below w6.heap.size w6 (w6.alloc (.cells #[.int .i64 x,.int .i64 y] 80)):=YD.alloc YA _
   have hE:Blk 80 (w6.alloc (.cells #[.int .i64 x,.int .i64 y] 80)) w6.heap.size [.int .i64 x,.int .i64 y]:=heap_alloc_new w6 _
   have e0:=hE.cell (j:=0) rfl
   have e1:=hE.cell (j:=1) rfl
   have hBN:=hB.go hbN
   have hSN:=hS.go hbN
   have y1:=(hbN.cell (p:=⟨w.heap.size,1,none⟩) (by simp only;have:=hb.size;omega)).trans x1
   have y2:=(hbN.cell (p:=⟨b,off+j*3+2,none⟩) (by simp only;have:=hb.size;omega)).trans c2
   have HBN:Hid (Below g w5 (w6.alloc (.cells #[.int .i64 x,.int .i64 y] 80))):=hb.alloc (by omega) _
   clear hbN hE hB hS hbX
   go_wp2_with fail
   generalize w6.alloc (.cells #[.int .i64 x,.int .i64 y] 80)=w7 at *
   have hBn:=((hBN.set (j*3) (.int .i64 x)).set (j*3+1) (.int .i64 y)).set (j*3+2) (.int .i64 wt)
   have efs:=Qjk (dualH F l j) j (x,y,wt)
   simp only at efs
   rw [efs,HS.out] at hBn
   have HBn:Hid _:=hBn
   have f0:w7.drew.frozen? ⟨g,j*3,none⟩=false:=hBN.frozen (j*3)
   have f1:w7.drew.frozen? ⟨g,j*3+1,none⟩=false:=hBN.frozen (j*3+1)
   have f2:w7.drew.frozen? ⟨g,j*3+2,none⟩=false:=hBN.frozen (j*3+2)
   have f3:w7.frozen? ⟨g,j*3+1,none⟩=false:=hBN.frozen (j*3+1)
   have f4:w7.frozen? ⟨g,j*3+2,none⟩=false:=hBN.frozen (j*3+2)
   have HSN:Hid (Blk 80 w7 gs (flatD (Qb1 F l))):=hSN
   have HBO:Hid (Blk 50 w7 g (flat (dualH F l j))):=hBN
   clear hBn hBN hSN s0 s1 x1 c2 efs
   obtain⟨⟨o0,g0⟩,⟨o1,g1⟩,⟨o2,g2⟩⟩:(∃ o,w7.cell? ⟨g,j*3,none⟩=some o)∧(∃ o,w7.cell? ⟨g,j*3+1,none⟩=some o)∧(∃ o,w7.cell? ⟨g,j*3+2,none⟩=some o):=by
    obtain⟨d0,d1,d2⟩:=Qdt (YB hln)
    exact⟨⟨_,HBO.out.cell d0⟩,⟨_,HBO.out.cell d1⟩,⟨_,HBO.out.cell d2⟩⟩
   have HGG:Hid (g<gs):=hgg
   clear hln hgg
   refine Qah (S:=(fun w':World=>w'.cell? ⟨w6.heap.size,0,none⟩=some (.int .i64 x)∧w'.cell? ⟨w6.heap.size,1,none⟩=some (.int .i64 y)∧w'.cell? ⟨w.heap.size,1,none⟩=some (.slice (some ⟨b,off,none⟩) l.length c)∧w'.cell? ⟨b,off+j*3+2,none⟩=some (.int .i64 wt))) (by kernel_rfl) ⟨e0,e1,y1,y2⟩ (fun hHeld=>?_)
   refine tL 0 ?_
   try simp only [YS]
   refine tL 1 ?_
   refine tL 2 ?_
   refine tL 3 ?_
   refine tL 4 ?_
   refine tL 5 ?_
   refine tL 6 ?_
   refine tL 7 ?_
   refine tL 8 ?_
   refine tL 9 ?_
   refine tL 10 ?_
   refine tL 11 ?_
   refine tL 12 ?_
   refine tL 13 ?_
   clear e0 e1 y1 y2 hHeld
   refine Qad (rs:=[14]) (by kernel_rfl) (by simp) ?_
   refine AllReadyL.last rfl (by kernel_rfl) (fun K hK=>?_)
   go_simp
   refine hK.out _ _ ?_
   clear hK K
   try simp only [Act.put,YS,YT,YU]
   refine Qaj (by kernel_rfl) ?_ _
   have hBq:Blk 50 (((w7.setCell ⟨g,j*3,none⟩ (.int .i64 x)).setCell ⟨g,j*3+1,none⟩ (.int .i64 y)).setCell ⟨g,j*3+2,none⟩ (.int .i64 wt)).drew g (flat (dualH F l (j+1))):=HBn.out
   have hSq:Blk 80 (((w7.setCell ⟨g,j*3,none⟩ (.int .i64 x)).setCell ⟨g,j*3+1,none⟩ (.int .i64 y)).setCell ⟨g,j*3+2,none⟩ (.int .i64 wt)).drew gs (flatD (Qb1 F l)):=by
    have hgg:=HGG.out
    have h1:=Below.heap_setCell w7 ⟨g,j*3,none⟩ (.int .i64 x) gs (by simp only;omega)
    have h2:=Below.heap_setCell (w7.setCell ⟨g,j*3,none⟩ (.int .i64 x)) ⟨g,j*3+1,none⟩ (.int .i64 y) gs (by simp only;omega)
    have h3:=Below.heap_setCell ((w7.setCell ⟨g,j*3,none⟩ (.int .i64 x)).setCell ⟨g,j*3+1,none⟩ (.int .i64 y)) ⟨g,j*3+2,none⟩ (.int .i64 wt) gs (by simp only;omega)
    exact (h3.trans (h2.trans h1)).trans HSN.out
   have hbq:Below g w5 (((w7.setCell ⟨g,j*3,none⟩ (.int .i64 x)).setCell ⟨g,j*3+1,none⟩ (.int .i64 y)).setCell ⟨g,j*3+2,none⟩ (.int .i64 wt)).drew:=Qab (((HBN.out.setCell (p:=⟨g,j*3,none⟩) YA _).setCell (p:=⟨g,j*3+1,none⟩) YA _).setCell (p:=⟨g,j*3+2,none⟩) YA _) 1
   clear HBn HBN f0 f1 f2 f3 f4 g0 g1 g2 HS HSN HBO
   go_wp2
   exact⟨⟨j+1,by omega,by go_num,hBq,hSq,hbq⟩,by simp [intOf];omega⟩
  ·obtain rfl:j=l.length:=by omega
   have hjl:¬ (l.length:Int)<(l.length:Int):=by omega
   rw [Qkz] at hB
   have hY6:Blk 24 w6 (w.heap.size+1) [.int .i64 0,.slice none 0 0]:=(hb.block _ (by omega)).trans HY5.out
   have y0:=hY6.cell (j:=0) rfl
   have y1:=hY6.cell (j:=1) rfl
   have f0:=hY6.frozen 0
   have f1:=hY6.frozen 1
   have hY7:=(hY6.set 0 (.int .i64 (F.length:Int))).set 1 (.slice (some ⟨g,0,none⟩) l.length l.length)
   have z0:=hY7.cell (j:=0) rfl
   have z1:=hY7.cell (j:=1) rfl
   have hBW:Below w.heap.size w w6:=HB5.out.trans (hb.mono (by omega))
   have HBF:Hid (Below w.heap.size w ((w6.setCell ⟨w.heap.size+1,0,none⟩ (.int .i64 (F.length:Int))).setCell ⟨w.heap.size+1,1,none⟩ (.slice (some ⟨g,0,none⟩) l.length l.length))):=(hBW.setCell (p:=⟨w.heap.size+1,0,none⟩) (by simp) _).setCell (p:=⟨w.heap.size+1,1,none⟩) (by simp) _
   have HBG:Hid (Blk 50 ((w6.setCell ⟨w.heap.size+1,0,none⟩ (.int .i64 (F.length:Int))).setCell ⟨w.heap.size+1,1,none⟩ (.slice (some ⟨g,0,none⟩) l.length l.length)) g (flat (dualL F l))):=by
    have h1:=Below.heap_setCell w6 ⟨w.heap.size+1,0,none⟩ (.int .i64 (F.length:Int)) g (by simp only;omega)
    have h2:=Below.heap_setCell (w6.setCell ⟨w.heap.size+1,0,none⟩ (.int .i64 (F.length:Int))) ⟨w.heap.size+1,1,none⟩ (.slice (some ⟨g,0,none⟩) l.length l.length) g (by simp only;omega)
    exact (h2.trans h1).trans hB
   have HLN:Hid (l.length=(dualL F l).length):=(QeX F l).symm
   clear hB hS hb hY6 hY7 hBW hbX x1 HX5 HY5 HL
   go_wp2
   refine bodyPost_ret (QjM rfl rfl z0 z1) rfl ?_
   refine⟨_,rfl,?_,HBF.out⟩
   have:=HBG.out.edges
   rw [QeX] at this
   exact this
end Go.Proofs.YtalflecmadacaaaGreat
