import Derived.Deep.QuietTactic
import Derived.BigQuiet
import Derived.Test.YtalflecmadacaaaGreatZAL
import Derived.Test.YtalflecmadacaaaGreatZAH
import Derived.Deep.RegionHeld3
import Derived.OwnWalk
import Derived.Laws.OwnMore
import Derived.Test.YtalflecmadacaaaGreatZAK
import Derived.Test.YtalflecmadacaaaGreatZAB
import Derived.Test.YtalflecmadacaaaGreatZAI
import Derived.Deep.RegionLaw
import Derived.Test.YtalflecmadacaaaGreatZAA
import Derived.Test.YtalflecmadacaaaGreatZAE
import Derived.Test.YtalflecmadacaaaGreatZAG
set_option maxRecDepth 100000
set_option maxHeartbeats 8000000
namespace Go.Proofs.YtalflecmadacaaaGreat
open Go Go.Proofs Go.RowKit
theorem QjI (l:List Int)(n:Int)(h0:0≤n)(hn:n≤4194304)(hl:l.length≤8388608)(sv:Value)(w:World)(hI:Ints w.heap.size w sv l):
  Calls Tryz.prog 83 #[sv,.int .i64 n] w fun r w'=>r = .returned (.bool (rsB l n))∧w'=w:=by
 obtain⟨p,c,rfl,ho⟩:=hI.openW
 have HO:Hid _:=fun (j:Nat) (hj:j<l.length)=>ho (j:=j) hj
 clear ho hI
 go_enter Tryz.func83,Tryz.ntmps83
 go_wp2
 go_loopw [5,10] (fun lv i wr=>∃ (k:Nat) (least:Int),k≤l.length∧i = .int .i64 k∧lv = .int .i64 least∧Hid (RIT l n k least)∧least≤n∧wr=w) (fun _ i _=>l.length-(intOf i).toNat)
 case atStart=>exact⟨0,0,YN,rfl,rfl,RIT.start l n,h0,rfl⟩
 case round=>
  obtain⟨k,least,hk,rfl,rfl,HR,hln,rfl⟩:=hrel
  by_cases hlt:k<l.length
  ·have hkl:(k:Int)<(l.length:Int):=by omega
   obtain⟨b,off,rfl,-,hc⟩:=HO.out k hlt
   have c0:=hc wr YD k hlt
   rw [QbH hlt] at c0
   have HLT:Hid (k<l.length):=hlt
   by_cases h1:l[k]<least
   ·have HE:Hid (rsB l n=false):=RIT.low HR.out hlt h1
    generalize l[k]=x at c0 h1
    clear hlt hc
    go_wp2
    go_ret
    exact⟨by rw [HE.out];rfl,rfl⟩
   ·by_cases h2:n≤l[k]
    ·have HE:Hid (rsB l n=false):=RIT.high hlt h2
     generalize l[k]=x at c0 h1 h2
     clear hlt hc
     go_wp2
     go_ret
     exact⟨by rw [HE.out];rfl,rfl⟩
    ·have HN:Hid _:=HR.out.next hlt (by omega) (by omega)
     have h3:=HR.out.2.1
     generalize l[k]=x at c0 h1 h2 HN
     clear hlt hc
     go_wp2
     exact⟨⟨k+1,x+1,HLT.out,by go_num,rfl,HN,by omega,trivial⟩,by have:=HLT.out;simp [intOf];omega⟩
  ·obtain rfl:k=l.length:=by omega
   have HE:Hid (rsB l n=true):=RIT.done HR.out
   go_wp2
   go_ret
   exact⟨by rw [HE.out];rfl,rfl⟩
theorem QdB (T:List Bool)(hT:T.length≤4194304)(tv:Value)(w:World)(hI:Bools w.heap.size w tv T):
  Calls Tryz.prog 64 #[tv] w fun r w'=>∃ lv,r = .returned lv∧w'.ownsRow w.heap.size 3 1 lv (trueL T).length ((trueL T).map (Value.int .i64))∧Below w.heap.size w w':=by
 obtain⟨i0,hi,hz0,hz1,hz2⟩:=info_parts infoI
 obtain⟨p,c,rfl⟩:=hI.len
 have HI:Hid (Bools w.heap.size w (.slice p T.length c) T):=hI
 clear hI
 go_enter Tryz.func64,Tryz.ntmps64
 go_wp2
 go_loopw [3,8] (fun lv iv wr=>∃ j:Nat,j≤T.length∧iv = .int .i64 j∧wr.ownsRow w.heap.size 3 1 lv (trueK T j).length ((trueK T j).map (Value.int .i64))∧Below w.heap.size w wr) (fun _ i _=>T.length-(intOf i).toNat)
 case atStart=>exact⟨0,YN,rfl,World.ownsRow_nil _ _ _ _,YD⟩
 case round=>
  obtain⟨j,hj,rfl,hO,hb⟩:=hrel
  obtain⟨pp,cc,rfl⟩:=Qaq hO
  by_cases hlt:j<T.length
  ·have hjl:(j:Int)<(T.length:Int):=by omega
   obtain⟨b,off,rfl,hbb,hcap,hc⟩:=Vals.open (enc:=Value.bool) HI.out hlt
   have c0:=hc wr hb j hlt
   have hlen:=Qed T j
   have hst:Hid _:=Qfa T j
   have hbT:bAt T j=T[j]:=by simp [bAt,hlt]
   rw [← hbT] at c0
   have HLT:Hid (j<T.length):=hlt
   clear hc hlt hbT
   cases hP:bAt T j with
   | false=>
    have HE:Hid (trueK T (j+1)=trueK T j):=by unfold Hid;rw [hst.out,hP];simp
    have HO2:Hid _:=hO
    have HB2:Hid _:=hb
    rw [hP] at c0
    clear hO hb hP
    go_wp2
    refine⟨⟨j+1,HLT.out,by go_num,?_,HB2.out⟩,by have:=HLT.out;simp [intOf];omega⟩
    rw [HE.out]
    exact HO2.out
   | true=>
    have HE:Hid (trueK T (j+1)=trueK T j++[(j:Int)]):=by unfold Hid;rw [hst.out,hP];simp
    have hownA:=hO.alloc (.cells #[.int .i64 (j:Int)] 3)
    have hnews:=Qbg wr (.int .i64 (j:Int)) 3
    have hone:∀ u∈[Value.int .i64 (j:Int)],u.oneCell'=true:=YO
    have hmx:(trueK T j).length+1≤maxLen:=by unfold maxLen;omega
    have hby:((trueK T j).length+1)*8≤140737488355328:=by omega
    have hbs:w.heap.size≤(wr.alloc (.cells #[.int .i64 (j:Int)] 3)).heap.size:=by have:=hb.size;simp;omega
    have hlow:∀ k,(Value.slice pp (trueK T j).length cc).ownBlock=some k→w.heap.size≤k:=fun k e=>(hO.lt k e).1
    have HB2:Hid _:=hb
    rw [hP] at c0
    clear hO hb hP
    go_wp2_with (at_builtin;refine wpList_append_own_at _ rfl _ _ 27 rfl w.heap.size 3 i0 (.int .i64 0) 1 8 Tryz.underlying27 hi hz0 hz1 hz2 rfl (by decide) (.slice pp (trueK T j).length cc) _ _ rfl hownA ⟨wr.heap.size,0,none⟩ 1 1 [.int .i64 (j:Int)] rfl rfl hnews hone hmx hby hbs ?_)
    intro v6 w6 hown6 hg6 hnil6 hat6
    obtain⟨a6,m6,c6,rfl⟩:=Qa0 hown6
    have HO6:Hid _:=hown6
    have HB6:Hid (Below w.heap.size w w6):=(HB2.out.alloc HB2.out.size _).grown hg6 hbs hlow
    clear hown6 hg6 hnil6 hat6 hownA hnews hone hmx hby hbs hlow
    go_wp2
    refine⟨⟨j+1,HLT.out,by go_num,?_,HB6.out⟩,by have:=HLT.out;simp [intOf];omega⟩
    rw [HE.out,YI,List.map_append]
    exact HO6.out
  ·obtain rfl:j=T.length:=by omega
   have HO2:Hid _:=hO
   clear hO
   go_wp2
   go_ret
   exact⟨_,rfl,HO2.out,hb⟩
theorem Qcl {W:World}{base:Nat}{v:Value}{l:List Int}{t:TypeId}(h:W.ownsRow base t 1 v l.length (l.map (Value.int .i64))):Ints W.heap.size W v l:=by
 rcases Nat.eq_zero_or_pos l.length with h0 | h0
 ·obtain rfl:l=[]:=List.eq_nil_of_length_eq_zero h0
  obtain⟨p,c,rfl⟩:=Qaq h
  exact Vals.nil _ _ _ _
 ·obtain⟨g,cap,rfl⟩:=QcT h h0
  have hlt:=h.lt g rfl
  have hcap:l.length≤cap:=by
   rcases h.2 with ⟨h1,_⟩ | ⟨g',cap',cur,h1,_,_,h2,_⟩
   ·simp at h1
   ·simp only [Value.slice.injEq] at h1
    obtain⟨_,_,rfl⟩:=h1
    exact h2
  refine .inr ⟨g,0,cap,rfl,hlt.2,hcap,fun j x hx=>?_⟩
  have hj:=(YE hx).1
  rw [Nat.zero_add,h.cellAt j (by omega),YH,hx]
  rfl
theorem Qg6:(Tryz.prog.info? 4).map (fun i=>(i.zero,i.size,i.bytes))=some (some (.bool false),1,1):=by kernel_rfl
theorem QaR (n:Nat):(madeCells (Value.bool false).cells (n*1)).toList=(List.replicate n false).map Value.bool:=by
 apply List.ext_getElem
 ·simp [madeCells]
 ·intro i h1 h2
  simp [madeCells,Value.cells,Nat.mod_one]
theorem Blk.boolsT {W:World}{g:Nat}{l:List Bool}{t:TypeId}(h:Blk t W g (l.map Value.bool)){n:Nat}(hn:l.length=n):Bools W.heap.size W (.slice (some ⟨g,0,none⟩) n n) l:=by
 subst hn
 exact .inr ⟨g,0,l.length,rfl,h.lt,YA,fun j x hx=>by rw [Nat.zero_add];exact h.cell (by rw [YH,hx];rfl)⟩
theorem Blk.bcell {W:World}{g:Nat}{T:List Bool}{t:TypeId}(h:Blk t W g (T.map Value.bool)){v:Nat}(hv:v<T.length):W.cell? ⟨g,v,none⟩=some (.bool (bAt T v)):=
 h.cell (by rw [YH,bAt_get? hv];rfl)
theorem Blk.flip {W:World}{g:Nat}{T:List Bool}{t:TypeId}(h:Blk t W g (T.map Value.bool))(v:Nat):Blk t (W.setCell ⟨g,v,none⟩ (.bool (!bAt T v))) g ((flipB T v).map Value.bool):=by
 have:=h.set v (.bool (!bAt T v))
 rw [← List.map_set] at this
 exact this
theorem QgQ {m:Nat}{B:List Int}(h:plcB m B=true){k:Nat}(hk:k<B.length):∃ i:Nat,B[k]=(i:Int)∧i<m:=by
 have:=plc_iff.1 h B[k] (YG hk)
 exact⟨B[k].toNat,by omega,by omega⟩
theorem QlI (N:Nat)(L:List Eg)(B:List Int)(hN:N≤1048576)(hE:∀ e∈L,e.1<N∧e.2.1<N)(hB:plcB L.length B=true)(hBl:B.length≤8388608)(sv bv:Value)(w:World)(hl:Edges w.heap.size w sv (L.map edE))(hI:Ints w.heap.size w bv B):
  Calls Tryz.prog 90 #[.agg #[.int .i64 (N:Int),sv],bv] w fun r w'=>∃ lv,r = .returned lv∧w'.ownsRow w.heap.size 3 1 lv (oddV N L B).length ((oddV N L B).map (Value.int .i64))∧Below w.heap.size w w':=by
 have hmix:=mixed
 obtain⟨p,c,rfl⟩:=hl.lenG
 obtain⟨pb,cb,rfl,ho⟩:=hI.openW
 have HO:Hid _:=fun (j:Nat) (hj:j<B.length)=>ho (j:=j) hj
 clear ho
 obtain⟨i0,hi,hz0,hz1,hz2⟩:=info_parts Qg6
 have hg1:Grew w (w.alloc (.cells #[.int .i64 (N:Int),.slice p L.length c] 24)):=(Grew.refl w).alloc _
 have E1:Hid ((w.alloc (.cells #[.int .i64 (N:Int),.slice p L.length c] 24)).heap.size=w.heap.size+1):=by show _=_;simp
 go_enter Tryz.func90,Tryz.ntmps90
 go_wp2_with (at_make;refine wpList_make_full _ rfl _ _ 25 rfl w.heap.size 4 i0 (.bool false) 1 Tryz.underlying25 hi hz0 hz1 .i64 .i64 _ _ N rfl rfl rfl rfl (by rw [hz2];omega) (by unfold maxLen;omega) (by simp) ?_;intro w3 hown hgrow;have hb3:Below (w.alloc (.cells #[.int .i64 (N:Int),.slice p L.length c] 24)).heap.size (w.alloc (.cells #[.int .i64 (N:Int),.slice p L.length c] 24)) w3:=YD.grown hgrow YA (fun k e=>by cases e);have q0:w3.cell? ⟨w.heap.size,0,none⟩=some (.int .i64 (N:Int)):=(hb3.cell (p:=⟨w.heap.size,0,none⟩) (by rw [E1.out];exact Nat.lt_succ_self _)).trans (Qan rfl rfl);have q1:w3.cell? ⟨w.heap.size,1,none⟩=some (.slice p L.length c):=(hb3.cell (p:=⟨w.heap.size,1,none⟩) (by rw [E1.out];exact Nat.lt_succ_self _)).trans (Qan rfl rfl);have hbw:Below w.heap.size w w3:=hg1.below.trans (hb3.mono (by rw [E1.out];omega));rw [E1.out] at hown;have hrow:=Blk.made hown;have hsz:=hrow.lt;rw [QaR,← QnI N L] at hrow;have HRow:Hid (Blk 4 w3 (w.heap.size+1) ((oddT N L (B.take 0)).map Value.bool)):=hrow;clear hown hgrow hb3 hrow;have hl1:w.heap.size<w3.heap.size:=by omega)
 obtain⟨x,hx⟩:∃ n,w.heap.size=n:=⟨_,rfl⟩
 have HBW:Hid (Below x w w3):=by rw [← hx];exact hbw
 rw [hx] at HRow hl1 hsz q0 q1 ⊢
 clear hg1 hbw hi hz0 hz1 hz2 E1
 go_loopw [14] (fun i wr=>∃ j:Nat,j≤B.length∧i = .int .i64 j∧Hid (Blk 4 wr (x+1) ((oddT N L (B.take j)).map Value.bool))∧Hid (Tch (x+1) w3 wr)) (fun i _=>B.length-(intOf i).toNat)
 case atStart=>exact⟨0,YN,rfl,HRow,Tch.refl _ _⟩
 case round=>
  obtain⟨j,hj,rfl,HR,HT⟩:=hrel
  have d0:=HT.out.cell q0 (by omega)
  have d1:=HT.out.cell q1 (by omega)
  have hbr:Below x w wr:=HT.out.below HBW.out (by omega) (by omega)
  by_cases hlt:j<B.length
  ·have hjl:(j:Int)<(B.length:Int):=by omega
   obtain⟨b2,off2,rfl,hb2,hc2⟩:=HO.out j hlt
   rw [hx] at hb2 hc2
   have c0:=hc2 wr hbr j hlt
   rw [QbH hlt] at c0
   obtain⟨i,hi1,hi2⟩:=QgQ hB hlt
   rw [hi1] at c0
   obtain⟨b,off,rfl,hb1,hcap,hc⟩:=hl.eg hi2
   rw [hx] at hc hb1
   obtain⟨e0,e1,e2⟩:=hc wr hbr i hi2
   obtain⟨hu,hv⟩:=hE L[i] (YG hi2)
   have heA:Qcr L (i:Int)=L[i]:=Qcb (YB hi2)
   have HST:Hid (flipB (flipB (oddT N L (B.take j)) L[i].1) L[i].2.1=oddT N L (B.take (j+1))):=by
    have h1:=QlH (N:=N) (L:=L) (B:=B.take j) (i:=(i:Int)) (by rw [heA];exact hu) (by rw [heA];exact hv)
    rw [heA] at h1
    have h2:B.take (j+1)=B.take j++[(i:Int)]:=by rw [List.take_succ_eq_append_getElem hlt,hi1]
    show _=_
    rw [h2];exact h1
   have HLT:Hid (j<B.length):=hlt
   have hi3:(i:Int)<(L.length:Int):=by omega
   have hwx:=World.block_lt_of_cell? wr _ d0
   have hwx1:=HR.out.lt
   have HlT:Hid ((oddT N L (B.take j)).length=N):=Qbd _ _ _
   generalize oddT N L (B.take j)=T at *
   generalize L[i]=e at *
   obtain⟨u,v,wt⟩:=e
   simp only at hu hv e0 e1 e2 HST
   clear hc hc2 hi1 heA hlt hbr
   have HE6:Hid (Blk 50 (wr.alloc (.cells #[.int .i64 (u:Int),.int .i64 (v:Int),.int .i64 (wt:Int)] 50)) wr.heap.size [.int .i64 (u:Int),.int .i64 (v:Int),.int .i64 (wt:Int)]):=heap_alloc_new wr _
   have HB6:Hid (Below wr.heap.size wr (wr.alloc (.cells #[.int .i64 (u:Int),.int .i64 (v:Int),.int .i64 (wt:Int)] 50))):=YD.alloc YA _
   go_wp2
   obtain⟨w6,hw6⟩:∃ W,wr.alloc (.cells #[.int .i64 (u:Int),.int .i64 (v:Int),.int .i64 (wt:Int)] 50)=W:=⟨_,rfl⟩
   rw [hw6] at HE6 HB6 ⊢
   clear hw6 e0 e1 e2 d0 d1 c0
   have HT6:Hid (Tch (x+1) w3 w6):=HT.out.trans (Tch.of_below HB6.out)
   have HR6:Hid (Blk 4 w6 (x+1) (T.map Value.bool)):=HR.out.go HB6.out
   have hne6:wr.heap.size≠x+1:=by omega
   obtain⟨eb,heb⟩:∃ n,wr.heap.size=n:=⟨_,rfl⟩
   rw [heb] at HE6 hne6 ⊢
   clear HB6 HR HT
   have hu':(u:Int)<(N:Int):=by omega
   have hv':(v:Int)<(N:Int):=by omega
   have t0:=HR6.out.bcell (v:=u) (by rw [HlT.out];exact hu)
   have f0:=HR6.out.frozen u
   have x0:=HE6.out.cell (j:=0) rfl
   have HR7:Hid _:=HR6.out.flip u
   have HT7:Hid _:=HT6.out.set u (.bool (!bAt T u))
   have HE7:Hid (Blk 50 (w6.setCell ⟨x+1,u,none⟩ (.bool (!bAt T u))) eb [.int .i64 (u:Int),.int .i64 (v:Int),.int .i64 (wt:Int)]):=HE6.out.other hne6 _
   have HlT2:Hid ((flipB T u).length=N):=by show _=_;rw [QaN];exact HlT.out
   clear HT6 HR6 HE6
   go_big_region_o
   obtain⟨w7,hw7⟩:∃ W,(w6.setCell ⟨x+1,u,none⟩ (.bool (!bAt T u))).drew=W:=⟨_,rfl⟩
   have HR8:Hid (Blk 4 w7 (x+1) ((flipB T u).map Value.bool)):=by rw [← hw7];exact HR7.out
   have HT8:Hid (Tch (x+1) w3 w7):=by rw [← hw7];exact HT7.out.drew
   have HE8:Hid (Blk 50 w7 eb [.int .i64 (u:Int),.int .i64 (v:Int),.int .i64 (wt:Int)]):=by rw [← hw7];exact HE7.out
   rw [hw7]
   clear hw7 HR7 HT7 HE7 t0 f0 x0
   generalize flipB T u=T2 at *
   have t0:=HR8.out.bcell (v:=v) (by rw [HlT2.out];exact hv)
   have f0:=HR8.out.frozen v
   have x1:=HE8.out.cell (j:=1) rfl
   have HR9:Hid _:=HR8.out.flip v
   have HT9:Hid _:=HT8.out.set v (.bool (!bAt T2 v))
   clear HT8 HR8 HE8
   go_wp2
   go_big_region_o
   go_wp2
   refine⟨⟨j+1,HLT.out,by go_num,?_,HT9.out.drew⟩,by have:=HLT.out;simp [intOf];omega⟩
   rw [← HST.out]
   exact HR9.out
  ·obtain rfl:j=B.length:=by omega
   have HF:Hid (Bools wr.heap.size wr (.slice (some ⟨x+1,0,none⟩) N N) (oddT N L B)):=by
    have h1:=HR.out
    rw [List.take_length] at h1
    exact h1.boolsT (Qbd _ _ _)
   have htr:=QdB (oddT N L B) (by rw [Qbd];omega) _ wr HF.out
   have HBr:Hid (Below x w wr):=hbr
   clear hbr HR HT d0 d1
   go_wp2_with fail
   refine htr.mono ?_
   rintro e w9 ⟨lv,rfl,ho9,hb9⟩
   have HO9:Hid _:=ho9
   clear ho9 htr
   go_wp2
   go_ret
   rw [hx]
   exact⟨lv,rfl,Qa2 HO9.out (by have:=HBr.out.size;omega),HBr.out.trans (hb9.mono (by have:=HBr.out.size;omega))⟩
theorem WB.setPth {a:Lay}{lv pv pv' ov:Value}{s:WS}{A B:World}{P:List Stp}(h:WB a lv pv ov s A)(hL:LayOK a)(hA:QaE pv ov)(hg:A.grownBy B pv.ownBlock)(hlow:∀ k,pv.ownBlock=some k→a.h0≤k)(hB:B.ownsRow a.h0 144 5 pv' P.length (flatP P)):WB a lv pv' ov { s with path:=P } (B.setCell ⟨a.wb,5,none⟩ pv'):=by
 have hb:∀ {t:TypeId} {b:Nat} {vs:List Value},Blk t A b vs→b<a.h0→Blk t B b vs:=fun {t b vs} hB hlt=>(hg.block b hB.lt (fun e=>by have:=hlow b e.symm;omega)).trans hB
 have hbl:=(hb h.blk hL.w0).set 5 pv'
 exact⟨hbl,(hb h.root hL.r0).other (Ne.symm hL.wr) _,(hb h.frm hL.f0).other (Ne.symm hL.wf) _,(hb h.dep hL.d0).other (Ne.symm hL.wd) _,(hb h.bls hL.k0).other (Ne.symm hL.wk) _,Qaf hB hL.w0 _,Qaf (Qau h.opn hg hA.2) hL.w0 _⟩
theorem QcB {pv pv' ov:Value}{n:Nat}(hA:QaE pv ov)(hat:pv'.ownBlock=pv.ownBlock∨pv'.ownBlock=some n)(hov:∀ k,ov.ownBlock=some k→k<n):QaE pv' ov:=by
 rcases hat with h | h
 ·unfold QaE;rw [h];exact hA
 ·refine⟨.inr ?_,?_⟩
  ·rw [h]
   intro e
   have:=hov n e.symm
   omega
  ·rw [h]
   cases ho:ov.ownBlock with
   | none=>exact .inl rfl
   | some k=>
    have:=hov k ho
    exact .inr (by simp;omega)
theorem QfE {pv ov:Value}(h:QaE pv ov):QaE ov pv:=⟨h.2,h.1⟩
theorem QoJ:(Tryz.prog.info? 144).map (fun i=>(i.zero,i.size,i.bytes))=some (some (.agg #[.int .i64 0,.int .i64 0,.int .i64 0,.int .i64 0,.int .i64 0]),5,40):=by kernel_rfl
theorem news_step' (W:World)(y0 y1 y2 y3 y4:Value)(h0:y0.oneCell'=true)(h1:y1.oneCell'=true)(h2:y2.oneCell'=true)(h3:y3.oneCell'=true)(h4:y4.oneCell'=true):Src (W.alloc (.cells #[y0,y1,y2,y3,y4] 144)) (.slice (some ⟨W.heap.size,0,none⟩) 1 1) 1 5 [y0,y1,y2,y3,y4]:=by
 refine .inr ⟨⟨W.heap.size,0,none⟩,1,rfl,rfl,fun j u hu=>?_,fun u hu=>?_⟩
 ·have hb:Blk 144 (W.alloc (.cells #[y0,y1,y2,y3,y4] 144)) W.heap.size [y0,y1,y2,y3,y4]:=heap_alloc_new W _
  have e:(⟨W.heap.size,0,none⟩:Addr).add j=⟨W.heap.size,j,none⟩:=by
   simp only [Addr.add]
   by_cases h:j=0
   ·subst h;rfl
   ·simp [h]
  rw [e]
  exact hb.cell hu
 ·simp at hu
  rcases hu with rfl | rfl | rfl | rfl | rfl <;> assumption
theorem QbP {W:World}{base:Nat}{e:TypeId}{size:Nat}{p:Option Addr}{n c:Nat}{xs:List Value}(h:W.ownsRow base e size (.slice p n c) n xs){m:Nat}(hm:m≤n):W.ownsRow base e size (.slice p m c) m (xs.take (m*size)):=by
 obtain⟨hl,h1⟩:=h
 have hms:m*size≤n*size:=Nat.mul_le_mul_right _ hm
 refine⟨by rw [List.length_take];omega,?_⟩
 rcases h1 with ⟨h2,h3⟩ | ⟨g,cap,cur,h2,h3,h4,h5,h6,h7,h8⟩
 ·simp only [Value.slice.injEq] at h2
  obtain⟨rfl,rfl,rfl⟩:=h2
  obtain rfl:m=0:=by omega
  exact .inl ⟨rfl,rfl⟩
 ·simp only [Value.slice.injEq] at h2
  obtain⟨rfl,_,rfl⟩:=h2
  refine .inr ⟨g,c,cur,rfl,h3,h4,by omega,h6,h7,?_⟩
  rw [← h8,List.take_take]
  congr 1
  omega
theorem Qjw (b k:Nat):(⟨b,0,none⟩:Addr).add k=⟨b,k,none⟩:=by
 simp only [Addr.add]
 by_cases h:k=0
 ·subst h;rfl
 ·simp [h]
theorem Qks (P Q:List Stp):(flatP (P++Q)).take (P.length*5)=flatP P:=by
 rw [Qa9,← Qbl P]
 exact List.take_left
theorem WB.cutWay {a:Lay}{lv ov:Value}{s:WS}{W:World}{pb n cap:Nat}{P Q:List Stp}(h:WB a lv (.slice (some ⟨pb,0,none⟩) n cap) ov s W)(hn:n=s.path.length)(hL:LayOK a)(hp:s.path=P++Q):WB a lv (.slice (some ⟨pb,0,none⟩) P.length cap) ov { s with path:=P } (W.setCell ⟨a.wb,5,none⟩ (.slice (some ⟨pb,0,none⟩) P.length cap)):=by
 subst hn
 have hw:=QbP h.way (m:=P.length) (by rw [hp];simp)
 rw [hp,Qks] at hw
 exact⟨h.blk.set 5 _,h.root.other (Ne.symm hL.wr) _,h.frm.other (Ne.symm hL.wf) _,h.dep.other (Ne.symm hL.wd) _,h.bls.other (Ne.symm hL.wk) _,Qaf hw hL.w0 _,Qaf h.opn hL.w0 _⟩
theorem WB.cutOpn {a:Lay}{lv pv:Value}{s:WS}{W:World}{po:Option Addr}{co k:Nat}(h:WB a lv pv (.slice po s.opn.length co) s W)(hL:LayOK a)(hk:k≤s.opn.length):WB a lv pv (.slice po k co) { s with opn:=s.opn.take k } (W.setCell ⟨a.wb,6,none⟩ (.slice po k co)):=by
 have hw:=QbP h.opn hk
 rw [Nat.mul_one,← List.map_take] at hw
 have hlen:(s.opn.take k).length=k:=by rw [List.length_take];omega
 refine⟨h.blk.set 6 _,h.root.other (Ne.symm hL.wr) _,h.frm.other (Ne.symm hL.wf) _,h.dep.other (Ne.symm hL.wd) _,h.bls.other (Ne.symm hL.wk) _,Qaf h.way hL.w0 _,?_⟩
 show World.ownsRow _ a.h0 _ 1 _ (s.opn.take k).length _
 rw [hlen]
 exact Qaf hw hL.w0 _
theorem Qmb (a:Lay)(hL:LayOK a)(lv ov:Value)(s:WS)(init:List Stp)(last:Stp)(pb cap:Nat)(hp:s.path=init++[last])(hP:s.path.length≤1073741824)(hO:s.opn.length≤1073741824)(hD:s.depth.length=a.N)(hK:s.block.length=a.M)(hv:∀ st∈init,∃ v:Nat,st.v=(v:Int)∧v<a.N)(ho:last.opn≤s.opn.length)(hops:∀ x∈s.opn,∃ k:Nat,x=(k:Int)∧k<a.M)(w:World)(h:WB a lv (.slice (some ⟨pb,0,none⟩) s.path.length cap) ov s w)(hA:QaE (.slice (some ⟨pb,0,none⟩) s.path.length cap) ov):
  Calls Tryz.prog 117 #[.pointer (some ⟨a.wb,0,none⟩)] w fun e w'=>e = .returned (.tuple #[])∧∃ pv' ov',WB a lv pv' ov' (Qam s init last) w'∧QaE pv' ov'∧Wk a w w':=by
 have hmix:=mixed
 have b5:=h.blk.cell (j:=5) rfl
 have hl:s.path.length=init.length+1:=by rw [hp];simp
 have hpb:=h.way.lt pb rfl
 have hcap:init.length+1≤cap:=by
  have:=h.way.2
  rcases this with ⟨h1,_⟩ | ⟨g,c,cur,h1,_,_,h2,_⟩
  ·cases h1
  ·simp only [Value.slice.injEq] at h1;omega
 have hcap1:(init.length:Int)≤(cap:Int):=by omega
 have hcap0:cap≠0:=by omega
 obtain⟨p0,p1,p2,p3,p4⟩:=h.top hp
 have hwl:a.wb<w.heap.size:=by have:=hL.w0;omega
 have hpl:pb<w.heap.size:=hpb.2
 rw [hl] at b5 hP
 have hP':(init.length:Int)≤1073741824:=by omega
 have Hh:Hid _:=h
 have HA:Hid _:=hA
 have HV:Hid _:=hv
 have HOPS:Hid _:=hops
 have HP:Hid _:=hp
 have HLn:Hid _:=hl
 clear h hA hv hops hp hl
 go_enter Tryz.func117,Tryz.ntmps117
 go_wp2
 go_big_region_o
 have hb1:Below w.heap.size w (w.alloc (.cells #[.int .i64 last.v,.int .i64 last.by_,.int .i64 (last.next:Int),.int .i64 last.low,.int .i64 (last.opn:Int)] 144)).drew:=Qab (YD.alloc YA _) 1
 have hX1:Blk 144 (w.alloc (.cells #[.int .i64 last.v,.int .i64 last.by_,.int .i64 (last.next:Int),.int .i64 last.low,.int .i64 (last.opn:Int)] 144)).drew w.heap.size [.int .i64 last.v,.int .i64 last.by_,.int .i64 (last.next:Int),.int .i64 last.low,.int .i64 (last.opn:Int)]:=heap_alloc_new w _
 have hW1:=Hh.out.go hb1
 have hk1:Wk a w (w.alloc (.cells #[.int .i64 last.v,.int .i64 last.by_,.int .i64 (last.next:Int),.int .i64 last.low,.int .i64 (last.opn:Int)] 144)).drew:=Wk.of_below hb1 (by omega)
 have hs1:w.heap.size<(w.alloc (.cells #[.int .i64 last.v,.int .i64 last.by_,.int .i64 (last.next:Int),.int .i64 last.low,.int .i64 (last.opn:Int)] 144)).drew.heap.size:=hX1.lt
 have hsx:a.h0≤w.heap.size:=by omega
 clear b5 p0 p1 p2 p3 p4 hb1
 generalize (w.alloc (.cells #[.int .i64 last.v,.int .i64 last.by_,.int .i64 (last.next:Int),.int .i64 last.low,.int .i64 (last.opn:Int)] 144)).drew=w1 at hX1 hW1 hk1 hs1 ⊢
 generalize w.heap.size=xb at *
 have HW2:Hid _:=hW1.cutWay rfl hL HP.out
 have HX2:Hid _:=hX1.other (p:=⟨a.wb,5,none⟩) (by have:=hL.w0;simp only;omega) (.slice (some ⟨pb,0,none⟩) init.length cap)
 have HK2:Hid _:=hk1.set (p:=⟨a.wb,5,none⟩) (.inl (.inl rfl)) (.slice (some ⟨pb,0,none⟩) init.length cap)
 have b5:=hW1.blk.cell (j:=5) rfl
 have f5:=hW1.blk.frozen 5
 rw [HLn.out] at b5
 clear hW1 hX1 hk1
 go_wp2
 go_big_region_o
 have hW2:=HW2.out.go (B:=(w1.setCell ⟨a.wb,5,none⟩ (.slice (some ⟨pb,0,none⟩) init.length cap)).drew) (Qab YD 1)
 have hX2:Blk 144 (w1.setCell ⟨a.wb,5,none⟩ (.slice (some ⟨pb,0,none⟩) init.length cap)).drew xb [.int .i64 last.v,.int .i64 last.by_,.int .i64 (last.next:Int),.int .i64 last.low,.int .i64 (last.opn:Int)]:=HX2.out
 have hk2:Wk a w (w1.setCell ⟨a.wb,5,none⟩ (.slice (some ⟨pb,0,none⟩) init.length cap)).drew:=⟨HK2.out.os,HK2.out.tape,HK2.out.output,HK2.out.size,HK2.out.block⟩
 have hs2:xb<(w1.setCell ⟨a.wb,5,none⟩ (.slice (some ⟨pb,0,none⟩) init.length cap)).drew.heap.size:=hX2.lt
 have hA2:QaE (.slice (some ⟨pb,0,none⟩) init.length cap) ov:=HA.out
 clear HW2 HX2 HK2 b5 f5 hs1 Hh HA
 generalize (w1.setCell ⟨a.wb,5,none⟩ (.slice (some ⟨pb,0,none⟩) init.length cap)).drew=w2 at hW2 hX2 hk2 hs2 ⊢
 have b5:=hW2.blk.cell (j:=5) rfl
 cases hin:init.getLast? with
 | none=>
  obtain rfl:init=[]:=List.getLast?_eq_none_iff.1 hin
  have HE:Hid (Qam s [] last={ s with path:=[] }):=rfl
  have Hres:Hid _:=hW2
  have HK3:Hid _:=hk2
  have HA3:Hid _:=hA2
  clear hW2 hX2 hk2 hA2
  simp only [List.length_nil] at b5
  go_wp2
  refine bodyPost_ret (results_none rfl _ _ _) rfl ?_
  refine⟨rfl,_,_,?_,HA3.out,HK3.out⟩
  rw [HE.out]
  exact Hres.out
 | some top=>
  obtain⟨pre,rfl⟩:=List.getLast?_eq_some_iff.1 hin
  obtain⟨v,hv,hvN⟩:=HV.out top (by simp)
  have hln:(pre++[top]).length=pre.length+1:=by simp
  obtain⟨p0,-,-,p3,-⟩:=hW2.top (s:={ s with path:=pre++[top] }) rfl
  rw [hv] at p0
  have b3:=hW2.blk.cell (j:=3) rfl
  have x3:=hX2.cell (j:=3) rfl
  have t0:w2.cell? ⟨a.db,v,none⟩=some (.int .i64 (s.depth.getD v 0)):=hW2.dep.cell (by rw [YH,YB (by show v<s.depth.length;omega)];simp [show v<s.depth.length by omega])
  have hvN':(v:Int)<(a.N:Int):=by omega
  have HW3:Hid _:=hW2
  have HX3:Hid _:=hX2
  have HK3:Hid _:=hk2
  have HA3:Hid _:=hA2
  rw [hln] at b5
  clear hW2 hX2 hk2 hA2
  generalize hdv:s.depth.getD v 0=dv at *
  have hpl':(pre.length:Int)≤1073741824:=by rw [hln] at hP;omega
  go_wp2
  go_quiet (fail)
  have hb3:Below w2.heap.size w2 (w2.drewN nq):=Qab YD nq
  have hW3:=HW3.out.go hb3
  have hX3:Blk 144 (w2.drewN nq) xb [.int .i64 last.v,.int .i64 last.by_,.int .i64 (last.next:Int),.int .i64 last.low,.int .i64 (last.opn:Int)]:=HX3.out
  have hk3:Wk a w (w2.drewN nq):=HK3.out.trans (Wk.of_below hb3 (by omega))
  have hs3:xb<(w2.drewN nq).heap.size:=hX3.lt
  clear HW3 HX3 HK3 b5 b3 x3 p0 p3 t0 hb3 hs2
  generalize w2.drewN nq=w3 at hW3 hX3 hk3 hs3 ⊢
  obtain⟨p0,-,-,p3,-⟩:=hW3.top (s:={ s with path:=pre++[top] }) rfl
  rw [hv] at p0
  have b3:=hW3.blk.cell (j:=3) rfl
  have x3:=hX3.cell (j:=3) rfl
  have t0:w3.cell? ⟨a.db,v,none⟩=some (.int .i64 dv):=hW3.dep.cell (by rw [YH,YB (by show v<s.depth.length;omega)];simp [← hdv,show v<s.depth.length by omega])
  have HW3:Hid _:=hW3
  have HX3:Hid _:=hX3
  have HK3:Hid _:=hk3
  clear hW3 hX3 hk3
  go_wp2
  go_quiet (fail)
  have hb4:Below w3.heap.size w3 (w3.drewN nq):=Qab YD nq
  have hW4:=HW3.out.go hb4
  have hX4:Blk 144 (w3.drewN nq) xb [.int .i64 last.v,.int .i64 last.by_,.int .i64 (last.next:Int),.int .i64 last.low,.int .i64 (last.opn:Int)]:=HX3.out
  have hk4:Wk a w (w3.drewN nq):=HK3.out.trans (Wk.of_below hb4 (by omega))
  have hs4:xb<(w3.drewN nq).heap.size:=hX4.lt
  clear HW3 HX3 HK3 b3 x3 p0 p3 t0 hb4 hs3
  generalize w3.drewN nq=w4 at hW4 hX4 hk4 hs4 ⊢
  have hat:at_ s.depth top.v=dv:=by unfold at_;rw [hv];exact hdv
  by_cases hlow:last.low<dv
  ·have HE:Hid (Qam s (pre++[top]) last={ s with path:=pre++[{ top with low:=min top.low last.low }] }):=by
    unfold Hid Qam
    rw [hin]
    simp only [hat,if_pos hlow,List.dropLast_concat]
   obtain⟨-,-,-,p3,-⟩:=hW4.top (s:={ s with path:=pre++[top] }) rfl
   have x3:=hX4.cell (j:=3) rfl
   have fr:=hW4.way.frozenAt (pre.length*5+3)
   have fin:∀ m:Int,m=min top.low last.low→∃ pv' ov',WB a lv pv' ov' (Qam s (pre++[top]) last) (w4.setCell ⟨pb,pre.length*5+3,none⟩ (.int .i64 m)).drew∧QaE pv' ov'∧Wk a w (w4.setCell ⟨pb,pre.length*5+3,none⟩ (.int .i64 m)).drew:=fun m hm=>by
    have h1:=hW4.setWay (s:={ s with path:=pre++[top] }) hL HA3.out (j:=pre.length*5+3) (u:=.int .i64 m) (P:=pre++[{ top with low:=m }]) (Qhe pre top m) (by simp)
    have h2:=hk4.set (p:=⟨pb,pre.length*5+3,none⟩) (.inr hpb.1) (.int .i64 m)
    refine⟨.slice (some ⟨pb,0,none⟩) (pre++[{ top with low:=m }]).length cap,ov,?_,?_,⟨h2.os,h2.tape,h2.output,h2.size,h2.block⟩⟩
    ·rw [HE.out,← hm]
     exact h1.go (Qab YD 1)
    ·exact HA3.out
   have Hfin:Hid _:=fin
   clear fin hW4 hX4 hk4
   by_cases hm:last.low<top.low
   ·have hz:=Hfin.out last.low (by omega)
    go_wp2
    go_big_region_o
    go_wp2
    refine bodyPost_ret (results_none rfl _ _ _) rfl ?_
    exact⟨rfl,hz⟩
   ·have hz:=Hfin.out top.low (by omega)
    go_wp2
    go_big_region_o
    go_wp2
    refine bodyPost_ret (results_none rfl _ _ _) rfl ?_
    exact⟨rfl,hz⟩
  ·have HE:Hid (Qam s (pre++[top]) last={ s with path:=pre++[top],block:=(s.opn.drop last.opn).foldl (fun b p=>b.set p.toNat last.by_) s.block,opn:=s.opn.take last.opn }):=by
    unfold Hid Qam
    rw [hin]
    simp only [hat,if_neg hlow]
   obtain⟨po,co,rfl⟩:=Qag hW4.opn
   have hco:s.opn.length≤co:=by
    rcases hW4.opn.2 with ⟨h1,h2⟩ | ⟨g,c,cur,h1,_,_,h2,_⟩
    ·have h3:s.opn.length=0:=h2;omega
    ·simp only [Value.slice.injEq] at h1;obtain⟨_,_,h4⟩:=h1;have h3:s.opn.length≤c:=h2;omega
   have hgo:∀ j,j<s.opn.length→∃ ob,po=some ⟨ob,0,none⟩:=fun j hj=>by
    rcases hW4.opn.2 with ⟨h1,h2⟩ | ⟨g,c,cur,h1,_,_,h2,_⟩
    ·exact absurd h2 (by show ¬ s.opn.length=0;omega)
    ·simp only [Value.slice.injEq] at h1;exact⟨g,h1.1⟩
   have b6:=hW4.blk.cell (j:=6) rfl
   have x4:=hX4.cell (j:=4) rfl
   have HW4:Hid _:=hW4
   have HX4:Hid _:=hX4
   have HK4:Hid _:=hk4
   have HGO:Hid _:=hgo
   have ho':(last.opn:Int)≤(s.opn.length:Int):=by omega
   clear hW4 hX4 hk4 hgo
   go_wp2
   go_quiet (fail)
   have hb5:Below w4.heap.size w4 (w4.drewN nq):=Qab YD nq
   have hW5:=HW4.out.go hb5
   have hX5:Blk 144 (w4.drewN nq) xb [.int .i64 last.v,.int .i64 last.by_,.int .i64 (last.next:Int),.int .i64 last.low,.int .i64 (last.opn:Int)]:=HX4.out
   have hk5:Wk a w (w4.drewN nq):=HK4.out.trans (Wk.of_below hb5 (by omega))
   clear HW4 HX4 HK4 b6 x4 hb5 hs4
   generalize w4.drewN nq=w5 at hW5 hX5 hk5 ⊢
   generalize hq:(if co=last.opn then po else Option.map (fun x=>x.add last.opn) po)=q
   have HQ:Hid _:=hq
   have hkM:s.block.length=a.M:=hK
   have HS0:Hid _:=hW5
   have HX0:Hid _:=hX5
   have HK0:Hid _:=hk5
   have hnl:((s.opn.length-last.opn:Nat):Int)≤1073741824:=by omega
   clear hq hW5 hX5 hk5 hv hP hcap hcap1 hP' hln hlow hdv hD hpl'
   go_wp2
   go_loopw [80] (fun i wr=>∃ j:Nat,j≤s.opn.length-last.opn∧i = .int .i64 j∧Hid (WB a lv (.slice (some ⟨pb,0,none⟩) (pre++[top]).length cap) (.slice po s.opn.length co) { s with path:=pre++[top],block:=((s.opn.drop last.opn).take j).foldl (fun b p=>b.set p.toNat last.by_) s.block } wr)∧Hid (Blk 144 wr xb [.int .i64 last.v,.int .i64 last.by_,.int .i64 (last.next:Int),.int .i64 last.low,.int .i64 (last.opn:Int)])∧Hid (Wk a w wr)) (fun i _=>(s.opn.length-last.opn)-(intOf i).toNat)
   case atStart=>exact⟨0,YN,rfl,HS0.out,HX0.out,HK0.out⟩
   case round=>
    obtain⟨j,hj,rfl,HWr,HXr,HKr⟩:=hrel
    by_cases hlt:j<s.opn.length-last.opn
    ·obtain⟨ob,rfl⟩:=HGO.out j (by omega)
     have hq':q=some ⟨ob,last.opn,none⟩:=by
      rw [← HQ.out,if_neg (by omega),Option.map_some,Qjw]
     subst hq'
     have hjo:last.opn+j<s.opn.length:=by omega
     obtain⟨pk,hpk,hpkM⟩:=HOPS.out s.opn[last.opn+j] (YG hjo)
     have c0:wr.cell? ⟨ob,last.opn+j,none⟩=some (.int .i64 (pk:Int)):=by
      have:=HWr.out.opn.cellAt (last.opn+j) (by show last.opn+j<s.opn.length*1;omega)
      rw [this,YH]
      show Option.map _ s.opn[last.opn+j]? = _
      rw [YB hjo,hpk]
      rfl
     have b4:=HWr.out.blk.cell (j:=4) rfl
     have x1:=HXr.out.cell (j:=1) rfl
     have hfl:(((s.opn.drop last.opn).take j).foldl (fun b p=>b.set p.toNat last.by_) s.block).length=a.M:=(QeO _ _ _).trans hkM
     obtain⟨y0,k0⟩:∃ z,wr.cell? ⟨a.kb,pk,none⟩=some z:=⟨_,HWr.out.bls.cell (by rw [YH];show Option.map _ (((s.opn.drop last.opn).take j).foldl (fun b p=>b.set p.toNat last.by_) s.block)[pk]? = _;rw [YB (by rw [hfl];exact hpkM)];rfl)⟩
     have f0:=HWr.out.bls.frozen pk
     have hpk':(pk:Int)<(a.M:Int):=by omega
     have hjn:(j:Int)<((s.opn.length-last.opn:Nat):Int):=by omega
     have hS:=HWr.out.setBlock hL pk last.by_
     have HFB:Hid (((s.opn.drop last.opn).take (j+1)).foldl (fun b p=>b.set p.toNat last.by_) s.block=(((s.opn.drop last.opn).take j).foldl (fun b p=>b.set p.toNat last.by_) s.block).set pk last.by_):=by
      unfold Hid
      rw [List.take_add_one,List.getElem?_drop,YB hjo,List.foldl_append,hpk]
      rfl
     have HR1:Hid _:=hS.go (B:=(wr.setCell ⟨a.kb,pk,none⟩ (.int .i64 last.by_)).drew) (Qab YD 1)
     have HR2:Hid (Blk 144 (wr.setCell ⟨a.kb,pk,none⟩ (.int .i64 last.by_)).drew xb _):=HXr.out.other (p:=⟨a.kb,pk,none⟩) (by have:=hL.k0;simp only;omega) (.int .i64 last.by_)
     have hk6:=HKr.out.set (p:=⟨a.kb,pk,none⟩) (.inl (.inr (.inr (.inr (.inr rfl))))) (.int .i64 last.by_)
     have HR3:Hid (Wk a w (wr.setCell ⟨a.kb,pk,none⟩ (.int .i64 last.by_)).drew):=⟨hk6.os,hk6.tape,hk6.output,hk6.size,hk6.block⟩
     clear hS hk6 HWr HXr HKr HOPS HGO HQ hpk hfl HA3 HS0 HX0 HK0
     go_wp2
     go_big_region_o
     go_wp2
     refine⟨⟨j+1,by omega,by go_num,?_,HR2.out,HR3.out⟩,by simp [intOf];omega⟩
     rw [HFB.out]
     exact HR1.out
    ·obtain rfl:j=s.opn.length-last.opn:=by omega
     have hfull:(s.opn.drop last.opn).take (s.opn.length-last.opn)=s.opn.drop last.opn:=List.take_of_length_le (by rw [List.length_drop];omega)
     rw [hfull] at HWr
     have b6:=HWr.out.blk.cell (j:=6) rfl
     have f6:=HWr.out.blk.frozen 6
     have x4:=HXr.out.cell (j:=4) rfl
     have hz:∃ pv' ov',WB a lv pv' ov' (Qam s (pre++[top]) last) (wr.setCell ⟨a.wb,6,none⟩ (.slice po last.opn co)).drew∧QaE pv' ov'∧Wk a w (wr.setCell ⟨a.wb,6,none⟩ (.slice po last.opn co)).drew:=by
      have h1:=(HWr.out.cutOpn (s:={ s with path:=pre++[top],block:=(s.opn.drop last.opn).foldl (fun b p=>b.set p.toNat last.by_) s.block }) hL (k:=last.opn) ho).go (B:=(wr.setCell ⟨a.wb,6,none⟩ (.slice po last.opn co)).drew) (Qab YD 1)
      have h2:=HKr.out.set (p:=⟨a.wb,6,none⟩) (.inl (.inl rfl)) (.slice po last.opn co)
      refine⟨.slice (some ⟨pb,0,none⟩) (pre++[top]).length cap,.slice po last.opn co,?_,?_,⟨h2.os,h2.tape,h2.output,h2.size,h2.block⟩⟩
      ·rw [HE.out]
       exact h1
      ·cases po with
       | none=>exact⟨.inr (by simp [Value.ownBlock]),.inl rfl⟩
       | some ad=>exact HA3.out
     have Hz:Hid _:=hz
     clear HWr HXr HKr HOPS HGO HQ HA3 HS0 HX0 HK0 hz hfull
     have hoc:(last.opn:Int)≤(co:Int):=by omega
     go_wp2
     go_big_region_o
     go_wp2
     refine bodyPost_end (results_none rfl _ _ _) rfl ?_
     exact⟨rfl,Hz.out⟩
def unm (MT:List Bool):Nat:=MT.count false
theorem Qec:∀ {MT:List Bool}{u:Nat} ,MT[u]? = some false→unm (MT.set u true)+1=unm MT
 | [],u,h=>by simp at h
 | b :: MT,0,h=>by
  have:b=false:=by simpa using h
  subst this
  simp [unm]
 | b :: MT,u+1,h=>by
  have ih:=Qec (MT:=MT) (u:=u) (by simpa using h)
  unfold unm at ih ⊢
  rw [List.set_cons_succ,List.count_cons,List.count_cons]
  omega
theorem QoA (MT:List Bool):unm MT≤MT.length:=List.count_le_length
theorem PlsI.hi {N lb sb M2 z:Nat}{off deg:Nat→Nat}{pre:Nat→List Int}{A B:World}(h:PlsI N lb sb M2 off deg pre A)(h1:lb<z)(h2:sb<z)(hb:Below z A B):PlsI N lb sb M2 off deg pre B:=by
 obtain⟨cs,a,b,c⟩:=h.cur
 exact⟨(hb.block lb h1).trans h.row,h.le,cs,(hb.block sb h2).trans a,b,c⟩
theorem PlsI.far {N lb sb M2:Nat}{off deg:Nat→Nat}{pre:Nat→List Int}{A:World}(h:PlsI N lb sb M2 off deg pre A){p:Addr}(h1:lb≠p.block)(h2:sb≠p.block)(v:Value):PlsI N lb sb M2 off deg pre (A.setCell p v):=by
 obtain⟨cs,a,b,c⟩:=h.cur
 exact⟨h.row.other h1 v,h.le,cs,a.other h2 v,b,c⟩
structure SpS (N x lb sb M2 sx mx z:Nat)(off deg:Nat→Nat)(pre:Nat→List Int)(gr:List Value)(w0:World)(SD MT:List Bool)(W:World):Prop where
 gr:Blk 24 W x gr
 pl:PlsI N lb sb M2 off deg pre W
 sd:Blk 4 W sx (SD.map Value.bool)
 mt:Blk 4 W mx (MT.map Value.bool)
 sl:SD.length=N
 ml:MT.length=N
 bel:Below x w0 W
 o:x<lb∧x<sb∧lb<sx∧sb<sx∧sx<mx∧mx<z
variable {N x lb sb M2 sx mx z:Nat} {off deg:Nat→Nat} {pre:Nat→List Int} {gr:List Value} {w0:World} {SD MT:List Bool} {W W':World}
theorem SpS.hi (h:SpS N x lb sb M2 sx mx z off deg pre gr w0 SD MT W)(hb:Below z W W'):SpS N x lb sb M2 sx mx z off deg pre gr w0 SD MT W':=by
 have ho:=h.o
 exact⟨(hb.block x (by omega)).trans h.gr,h.pl.hi (by omega) (by omega) hb,(hb.block sx (by omega)).trans h.sd,(hb.block mx (by omega)).trans h.mt,h.sl,h.ml,h.bel.trans (hb.mono (by omega)),ho⟩
theorem SpS.setM (h:SpS N x lb sb M2 sx mx z off deg pre gr w0 SD MT W)(v:Nat)(b:Bool):SpS N x lb sb M2 sx mx z off deg pre gr w0 SD (MT.set v b) (W.setCell ⟨mx,v,none⟩ (.bool b)):=by
 have ho:=h.o
 refine⟨h.gr.other (p:=⟨mx,v,none⟩) (by show x≠mx;omega) _,h.pl.far (p:=⟨mx,v,none⟩) (by show lb≠mx;omega) (by show sb≠mx;omega) _,h.sd.other (p:=⟨mx,v,none⟩) (by show sx≠mx;omega) _,?_,h.sl,by rw [List.length_set];exact h.ml,h.bel.setCell (p:=⟨mx,v,none⟩) (by show x≤mx;omega) _,ho⟩
 rw [List.map_set]
 exact h.mt.set v _
theorem SpS.setS (h:SpS N x lb sb M2 sx mx z off deg pre gr w0 SD MT W)(v:Nat)(b:Bool):SpS N x lb sb M2 sx mx z off deg pre gr w0 (SD.set v b) MT (W.setCell ⟨sx,v,none⟩ (.bool b)):=by
 have ho:=h.o
 refine⟨h.gr.other (p:=⟨sx,v,none⟩) (by show x≠sx;omega) _,h.pl.far (p:=⟨sx,v,none⟩) (by show lb≠sx;omega) (by show sb≠sx;omega) _,?_,h.mt.other (p:=⟨sx,v,none⟩) (by show mx≠sx;omega) _,by rw [List.length_set];exact h.sl,h.ml,h.bel.setCell (p:=⟨sx,v,none⟩) (by show x≤sx;omega) _,ho⟩
 rw [List.map_set]
 exact h.sd.set v _
theorem Qjv {T:List Bool}{v:Nat}{b:Bool}(h:v≠0):bAt (T.set v b) 0=bAt T 0:=by
 unfold bAt
 rw [YC,YC,List.getElem?_set_ne h]
theorem Qgk {T:List Bool}{v:Nat}(h:bAt T 0=true):bAt (T.set v true) 0=true:=by
 unfold bAt at *
 rw [YC,List.getElem?_set] at *
 by_cases e:v=0
 ·subst e
  cases T with
  | nil=>simp at h
  | cons a T=>simp
 ·rw [if_neg e];exact h
theorem QiY {A:World}{t:TypeId}{v:Value}{h:Nat}(hz:h≤A.heap.size):(A.alloc (.cells #[v] t)).ownsRow h t 1 (.slice (some ⟨A.heap.size,0,none⟩) 1 1) 1 [v]:=
 ⟨rfl,.inr ⟨A.heap.size,1,#[v],rfl,hz,heap_alloc_new A _,YA,by unfold maxLen;omega,rfl,rfl⟩⟩
theorem QiM {A:World}{base:Nat}{e:TypeId}{v:Value}{l:List Nat}(h:A.ownsRow base e 1 v l.length (natsV l))(h0:0<l.length):∃ g cap,v = .slice (some ⟨g,0,none⟩) l.length cap∧base≤g∧l.length≤cap∧g<A.heap.size∧∀ (j y:Nat),l[j]? = some y→A.cell? ⟨g,j,none⟩=some (.int .i64 (y:Int)):=by
 obtain⟨g,cap,rfl⟩:=QcU h h0
 have hcap:l.length≤cap:=by
  rcases h.2 with ⟨h1,_⟩ | ⟨g',c',cur,h1,_,_,h2,_⟩
  ·simp at h1
  ·simp only [Value.slice.injEq] at h1
   obtain⟨_,_,rfl⟩:=h1
   exact h2
 refine⟨g,cap,rfl,(h.lt g rfl).1,hcap,(h.lt g rfl).2,fun j y hy=>?_⟩
 have hj:=(YE hy).1
 rw [h.cellAt j (by omega)]
 unfold natsV
 rw [YH,hy]
 rfl
theorem QbQ {A B:World}{base:Nat}{e:TypeId}{size:Nat}{v:Value}{n:Nat}{xs:List Value}(h:A.ownsRow base e size v n xs)(hb:Below A.heap.size A B):B.ownsRow base e size v n xs:=by
 refine h.kept (row:=none) (⟨hb.os,hb.tape,hb.output,hb.size,fun k hk _=>hb.block k hk⟩:A.grownBy B none) ?_
 cases v.ownBlock with
 | none=>exact .inl rfl
 | some k=>exact .inr (by simp)
theorem Qeu (A:World)(v:Value)(t:TypeId):∀ (q:Nat) (u:Value),[v][q]? = some u→(A.alloc (.cells #[v] t)).cell? ((⟨A.heap.size,0,none⟩:Addr).add q)=some u:=by
 intro q u hu
 cases q with
 | zero=>simp at hu;subst hu;simp [Addr.add]
 | succ q=>simp at hu
def esP (l:List Ed)(SD MT:List Bool):List Ed:=l.filter fun e=>bAt MT e.1.toNat && bAt MT e.2.1.toNat && (bAt SD e.1.toNat != bAt SD e.2.1.toNat)
theorem esP_mem {l:List Ed}{SD MT:List Bool}{e:Ed}:e∈esP l SD MT↔e∈l∧bAt MT e.1.toNat=true∧bAt MT e.2.1.toNat=true∧bAt SD e.1.toNat≠bAt SD e.2.1.toNat:=by
 unfold esP
 rw [List.mem_filter]
 simp [Bool.and_eq_true,and_assoc]
theorem esP_adj {l:List Ed}{SD MT:List Bool}{a b:Nat}:Adj (esP l SD MT) a b↔Adj l a b∧bAt MT a=true∧bAt MT b=true∧bAt SD a≠bAt SD b:=by
 constructor
 ·rintro⟨e,he,h⟩
  obtain⟨h1,h2,h3,h4⟩:=esP_mem.1 he
  rcases h with ⟨h5,h6⟩ | ⟨h5,h6⟩
  ·rw [h5] at h2 h4
   rw [h6] at h3 h4
   exact⟨⟨e,h1,.inl ⟨h5,h6⟩⟩,h2,h3,h4⟩
  ·rw [h5] at h2 h4
   rw [h6] at h3 h4
   exact⟨⟨e,h1,.inr ⟨h5,h6⟩⟩,h3,h2,Ne.symm h4⟩
 ·rintro⟨⟨e,h1,h⟩,h2,h3,h4⟩
  refine⟨e,esP_mem.2 ⟨h1,?_⟩,h⟩
  rcases h with ⟨h5,h6⟩ | ⟨h5,h6⟩
  ·rw [h5,h6]
   exact⟨h2,h3,h4⟩
  ·rw [h5,h6]
   exact⟨h3,h2,Ne.symm h4⟩
theorem QbG {H K:List Ed}(h:∀ a b,Adj H a b→Adj K a b){a c:Nat}(hc:Conn H a c):Conn K a c:=by
 induction hc using Conn.ind with
 | refl=>exact .refl _
 | step h1 _ ih=>exact .step (h _ _ h1) ih
structure ClI (l:List Ed)(SD MT:List Bool):Prop where
 shut:∀ u v,Adj l u v→bAt MT u=true→bAt MT v=true
 con:∀ u v,Adj l u v→bAt MT u=true→Conn (esP l SD MT) u v
structure PhI (l:List Ed)(MT0 SD MT:List Bool)(j:Nat)(D:Nat→Prop):Prop where
 shut:∀ u v,Adj l u v→bAt MT0 u=true→bAt MT0 v=true
 sub:∀ v,bAt MT0 v=true→bAt MT v=true
 old:∀ u v,Adj l u v→bAt MT0 u=true→Conn (esP l SD MT) u v
 con:∀ v,bAt MT v=true→bAt MT0 v=false→Conn (esP l SD MT) j v
 nb:∀ v,bAt MT v=true→bAt MT0 v=false→¬ D v→∀ u,Adj l v u→bAt MT u=true
theorem Qax {T:List Bool}{u:Nat}{b:Bool}(hu:u<T.length)(v:Nat):bAt (T.set u b) v=if v=u then b else bAt T v:=by
 unfold bAt
 rw [YC,YC,List.getElem?_set]
 by_cases e:u=v
 ·subst e
  rw [if_pos rfl,if_pos hu,if_pos rfl]
  rfl
 ·rw [if_neg e,if_neg (Ne.symm e)]
theorem Qok {l:List Ed}{SD MT:List Bool}{u:Nat}{b:Bool}(h1:u<SD.length)(h2:u<MT.length)(hu:bAt MT u=false):∀ x y,Adj (esP l SD MT) x y→Adj (esP l (SD.set u b) (MT.set u true)) x y:=by
 intro x y h
 obtain⟨a1,a2,a3,a4⟩:=esP_adj.1 h
 have n1:x≠u:=fun e=>by rw [e,hu] at a2;cases a2
 have n2:y≠u:=fun e=>by rw [e,hu] at a3;cases a3
 refine esP_adj.2 ⟨a1,?_,?_,?_⟩
 ·rw [Qax h2,if_neg n1];exact a2
 ·rw [Qax h2,if_neg n2];exact a3
 ·rw [Qax h1,Qax h1,if_neg n1,if_neg n2];exact a4
theorem QmN {l:List Ed}{SD MT:List Bool}{u:Nat}(h2:u<MT.length)(hu:bAt MT u=false):∀ x y,Adj (esP l SD MT) x y→Adj (esP l SD (MT.set u true)) x y:=by
 intro x y h
 obtain⟨a1,a2,a3,a4⟩:=esP_adj.1 h
 have n1:x≠u:=fun e=>by rw [e,hu] at a2;cases a2
 have n2:y≠u:=fun e=>by rw [e,hu] at a3;cases a3
 refine esP_adj.2 ⟨a1,?_,?_,a4⟩
 ·rw [Qax h2,if_neg n1];exact a2
 ·rw [Qax h2,if_neg n2];exact a3
theorem ClI.start {l:List Ed}{N:Nat}{SD:List Bool}:ClI l SD (List.replicate N false):=by
 have h:∀ v,bAt (List.replicate N false) v=false:=fun v=>by
  unfold bAt
  rw [YC,List.getElem?_replicate]
  split <;> rfl
 refine⟨fun u v _ hu=>?_,fun u v _ hu=>?_⟩
 ·rw [h] at hu
  cases hu
 ·rw [h] at hu
  cases hu
theorem ClI.enter {l:List Ed}{SD MT:List Bool}(h:ClI l SD MT){j:Nat}(hj:j<MT.length)(hm:bAt MT j=false):PhI l MT SD (MT.set j true) j (fun v=>v∈[j]):=by
 refine⟨h.shut,fun v hv=>?_,fun u v h1 h2=>QbG (QmN hj hm) (h.con u v h1 h2),fun v h1 h2=>?_,fun v h1 h2 h3=>?_⟩
 ·rw [Qax hj]
  split
  ·rfl
  ·exact hv
 ·rw [Qax hj] at h1
  split at h1
  ·rename_i e
   rw [e]
   exact .refl _
  ·rw [h1] at h2
   cases h2
 ·rw [Qax hj,if_neg (fun e=>h3 (by rw [e];exact List.mem_singleton.2 rfl))] at h1
  rw [h1] at h2
  cases h2
theorem PhI.leave {l:List Ed}{MT0 SD MT:List Bool}{j:Nat}{D:Nat→Prop}(h:PhI l MT0 SD MT j D)(hD:∀ v,¬ D v):ClI l SD MT:=by
 have hshut:∀ u v,Adj l u v→bAt MT u=true→bAt MT v=true:=fun u v huv hu=>by
  cases e:bAt MT0 u with
  | true=>exact h.sub v (h.shut u v huv e)
  | false=>exact h.nb u hu e (hD u) v huv
 refine⟨hshut,fun u v huv hu=>?_⟩
 cases e:bAt MT0 u with
 | true=>exact h.old u v huv e
 | false=>
  have hv0:bAt MT0 v=false:=by
   cases e2:bAt MT0 v with
   | false=>rfl
   | true=>
    have:=h.shut v u huv.symm e2
    rw [this] at e
    cases e
  exact (h.con u hu e).symm.trans (h.con v (hshut u v huv hu) hv0)
theorem PhI.less {l:List Ed}{MT0 SD MT:List Bool}{j:Nat}{D D':Nat→Prop}(h:PhI l MT0 SD MT j D)(hD:∀ v,¬ D' v→D v→∀ u,Adj l v u→bAt MT u=true):PhI l MT0 SD MT j D':=
 ⟨h.shut,h.sub,h.old,h.con,fun v h1 h2 h3 u hu=>by
  by_cases e:D v
  ·exact hD v h3 e u hu
  ·exact h.nb v h1 h2 e u hu⟩
theorem PhI.meet {l:List Ed}{MT0 SD MT:List Bool}{j:Nat}{D:Nat→Prop}(h:PhI l MT0 SD MT j D){v u:Nat}(hvu:Adj l v u)(hv:bAt MT v=true)(hv0:bAt MT0 v=false)(hu:bAt MT u=false)(h1:u<SD.length)(h2:u<MT.length){D':Nat→Prop}(hD:∀ x,D x→D' x)(hDu:D' u):
  PhI l MT0 (SD.set u (!bAt SD v)) (MT.set u true) j D':=by
 have hmore:=Qok (l:=l) (b:=!bAt SD v) h1 h2 hu
 have hvn:v≠u:=fun e=>by rw [e,hu] at hv;cases hv
 have hnew:Adj (esP l (SD.set u (!bAt SD v)) (MT.set u true)) v u:=by
  refine esP_adj.2 ⟨hvu,?_,?_,?_⟩
  ·rw [Qax h2,if_neg hvn];exact hv
  ·rw [Qax h2,if_pos rfl]
  ·rw [Qax h1,Qax h1,if_neg hvn,if_pos rfl]
   cases bAt SD v <;> simp
 refine⟨h.shut,fun x hx=>?_,fun x y hxy hx=>QbG hmore (h.old x y hxy hx),fun x hx hx0=>?_,fun x hx hx0 hDx y hxy=>?_⟩
 ·rw [Qax h2]
  split
  ·rfl
  ·exact h.sub x hx
 ·rw [Qax h2] at hx
  split at hx
  ·rename_i e
   rw [e]
   exact (QbG hmore (h.con v hv hv0)).trans (.one hnew)
  ·exact QbG hmore (h.con x hx hx0)
 ·have hxu:x≠u:=fun e=>hDx (by rw [e];exact hDu)
  rw [Qax h2,if_neg hxu] at hx
  have:=h.nb x hx hx0 (fun e=>hDx (hD x e)) y hxy
  rw [Qax h2]
  split
  ·rfl
  ·exact this
theorem PhI.fresh {l:List Ed}{MT0 SD MT:List Bool}{j:Nat}{D:Nat→Prop}(h:PhI l MT0 SD MT j D){u:Nat}(hu:bAt MT u=false):bAt MT0 u=false:=by
 cases e:bAt MT0 u with
 | false=>rfl
 | true=>rw [h.sub u e] at hu;cases hu
end Go.Proofs.YtalflecmadacaaaGreat
