import Derived.Deep.QuietTactic
import Derived.BigQuiet
import Derived.Deep.RegionHeld3
import Derived.OwnWalk
import Derived.Laws.OwnMore
import Derived.Test.YtalflecmadacaaaGreatZAP
import Derived.Test.YtalflecmadacaaaGreatZAQ
import Derived.Test.YtalflecmadacaaaGreatZAR
import Derived.Test.YtalflecmadacaaaGreatZAB
import Derived.Test.YtalflecmadacaaaGreatZAA
import Derived.Test.YtalflecmadacaaaGreatZAM
import Derived.Test.YtalflecmadacaaaGreatZAL
set_option maxRecDepth 100000
set_option maxHeartbeats 8000000
namespace Go.Proofs.YtalflecmadacaaaGreat
open Go Go.Proofs Go.RowKit
theorem QbX (T:List Bool)(hT:T.length≤4194304)(tv:Value)(w:World)(hI:Bools w.heap.size w tv T):
  Calls Tryz.prog 64 #[tv] w fun r w'=>∃ lv,r = .returned lv∧w'.ownsRow w.heap.size 3 1 lv (trueL T).length ((trueL T).map (Value.int .i64))∧Below w.heap.size w w':=by
 obtain⟨i0,hi,hz0,hz1,hz2⟩:=info_parts infoI
 obtain⟨p,c,rfl⟩:=hI.len
 have HI:Hid (Bools w.heap.size w (.slice p T.length c) T):=hI
 clear hI
 go_enter Tryz.func64,Tryz.ntmps64
 go_wp2
 go_loopw [3,8] (fun lv iv wr=>∃ j:Nat,j≤T.length∧iv = .int .i64 j∧wr.ownsRow w.heap.size 3 1 lv (trueK T j).length ((trueK T j).map (Value.int .i64))∧Below w.heap.size w wr) (fun _ i _=>T.length-(intOf i).toNat)
 case atStart=>exact⟨0,YN,rfl,World.ownsRow_nil _ _ _ _,YD⟩
 case round=>
  obtain⟨j,hj,rfl,hO,hb⟩:=hrel
  obtain⟨pp,cc,rfl⟩:=Qan hO
  by_cases hlt:j<T.length
  ·have hjl:(j:Int)<(T.length:Int):=by omega
   obtain⟨b,off,rfl,hbb,hcap,hc⟩:=Vals.open (enc:=Value.bool) HI.out hlt
   have c0:=hc wr hb j hlt
   have hlen:=QbY T j
   have hst:Hid _:=Qde T j
   have hbT:bAt T j=T[j]:=by simp [bAt,hlt]
   rw [← hbT] at c0
   have HLT:Hid (j<T.length):=hlt
   clear hc hlt hbT
   cases hP:bAt T j with
   | false=>
    have HE:Hid (trueK T (j+1)=trueK T j):=by unfold Hid;rw [hst.out,hP];simp
    have HO2:Hid _:=hO
    have HB2:Hid _:=hb
    rw [hP] at c0
    clear hO hb hP
    go_wp2
    refine⟨⟨j+1,HLT.out,by go_num,?_,HB2.out⟩,by have:=HLT.out;simp [intOf];omega⟩
    rw [HE.out]
    exact HO2.out
   | true=>
    have HE:Hid (trueK T (j+1)=trueK T j++[(j:Int)]):=by unfold Hid;rw [hst.out,hP];simp
    have hownA:=hO.alloc (.cells #[.int .i64 (j:Int)] 3)
    have hnews:=Qbi wr (.int .i64 (j:Int)) 3
    have hone:∀ u∈[Value.int .i64 (j:Int)],u.oneCell'=true:=YO
    have hmx:(trueK T j).length+1≤maxLen:=by unfold maxLen;omega
    have hby:((trueK T j).length+1)*8≤140737488355328:=by omega
    have hbs:w.heap.size≤(wr.alloc (.cells #[.int .i64 (j:Int)] 3)).heap.size:=by have:=hb.size;simp;omega
    have hlow:∀ k,(Value.slice pp (trueK T j).length cc).ownBlock=some k→w.heap.size≤k:=fun k e=>(hO.lt k e).1
    have HB2:Hid _:=hb
    rw [hP] at c0
    clear hO hb hP
    go_wp2_with (at_builtin;refine wpList_append_own_at _ rfl _ _ 27 rfl w.heap.size 3 i0 (.int .i64 0) 1 8 Tryz.underlying27 hi hz0 hz1 hz2 rfl (by decide) (.slice pp (trueK T j).length cc) _ _ rfl hownA ⟨wr.heap.size,0,none⟩ 1 1 [.int .i64 (j:Int)] rfl rfl hnews hone hmx hby hbs ?_)
    intro v6 w6 hown6 hg6 hnil6 hat6
    obtain⟨a6,m6,c6,rfl⟩:=Qa3 hown6
    have HO6:Hid _:=hown6
    have HB6:Hid (Below w.heap.size w w6):=(HB2.out.alloc HB2.out.size _).grown hg6 hbs hlow
    clear hown6 hg6 hnil6 hat6 hownA hnews hone hmx hby hbs hlow
    go_wp2
    refine⟨⟨j+1,HLT.out,by go_num,?_,HB6.out⟩,by have:=HLT.out;simp [intOf];omega⟩
    rw [HE.out,YI,List.map_append]
    exact HO6.out
  ·obtain rfl:j=T.length:=by omega
   have HO2:Hid _:=hO
   clear hO
   go_wp2
   go_ret
   exact⟨_,rfl,HO2.out,hb⟩
theorem QbE {W:World}{base:Nat}{v:Value}{l:List Int}{t:TypeId}(h:W.ownsRow base t 1 v l.length (l.map (Value.int .i64))):Ints W.heap.size W v l:=by
 rcases Nat.eq_zero_or_pos l.length with h0 | h0
 ·obtain rfl:l=[]:=List.eq_nil_of_length_eq_zero h0
  obtain⟨p,c,rfl⟩:=Qan h
  exact Vals.nil _ _ _ _
 ·obtain⟨g,cap,rfl⟩:=QcP h h0
  have hlt:=h.lt g rfl
  have hcap:l.length≤cap:=by
   rcases h.2 with ⟨h1,_⟩ | ⟨g',cap',cur,h1,_,_,h2,_⟩
   ·simp at h1
   ·simp only [Value.slice.injEq] at h1
    obtain⟨_,_,rfl⟩:=h1
    exact h2
  refine .inr ⟨g,0,cap,rfl,hlt.2,hcap,fun j x hx=>?_⟩
  have hj:=(YE hx).1
  rw [Nat.zero_add,h.cellAt j (by omega),YH,hx]
  rfl
theorem Qff:(Tryz.prog.info? 4).map (fun i=>(i.zero,i.size,i.bytes))=some (some (.bool false),1,1):=by kernel_rfl
theorem QaT (n:Nat):(madeCells (Value.bool false).cells (n*1)).toList=(List.replicate n false).map Value.bool:=by
 apply List.ext_getElem
 ·simp [madeCells]
 ·intro i h1 h2
  simp [madeCells,Value.cells,Nat.mod_one]
theorem Blk.boolsT {W:World}{g:Nat}{l:List Bool}{t:TypeId}(h:Blk t W g (l.map Value.bool)){n:Nat}(hn:l.length=n):Bools W.heap.size W (.slice (some ⟨g,0,none⟩) n n) l:=by
 subst hn
 exact .inr ⟨g,0,l.length,rfl,h.lt,YA,fun j x hx=>by rw [Nat.zero_add];exact h.cell (by rw [YH,hx];rfl)⟩
theorem Blk.bcell {W:World}{g:Nat}{T:List Bool}{t:TypeId}(h:Blk t W g (T.map Value.bool)){v:Nat}(hv:v<T.length):W.cell? ⟨g,v,none⟩=some (.bool (bAt T v)):=
 h.cell (by rw [YH,bAt_get? hv];rfl)
theorem Blk.flip {W:World}{g:Nat}{T:List Bool}{t:TypeId}(h:Blk t W g (T.map Value.bool))(v:Nat):Blk t (W.setCell ⟨g,v,none⟩ (.bool (!bAt T v))) g ((flipB T v).map Value.bool):=by
 have:=h.set v (.bool (!bAt T v))
 rw [← List.map_set] at this
 exact this
theorem Qgy {m:Nat}{B:List Int}(h:plcB m B=true){k:Nat}(hk:k<B.length):∃ i:Nat,B[k]=(i:Int)∧i<m:=by
 have:=plc_iff.1 h B[k] (YG hk)
 exact⟨B[k].toNat,by omega,by omega⟩
theorem Qlb (N:Nat)(L:List Eg)(B:List Int)(hN:N≤1048576)(hE:∀ e∈L,e.1<N∧e.2.1<N)(hB:plcB L.length B=true)(hBl:B.length≤8388608)(sv bv:Value)(w:World)(hl:Edges w.heap.size w sv (L.map edE))(hI:Ints w.heap.size w bv B):
  Calls Tryz.prog 90 #[.agg #[.int .i64 (N:Int),sv],bv] w fun r w'=>∃ lv,r = .returned lv∧w'.ownsRow w.heap.size 3 1 lv (oddV N L B).length ((oddV N L B).map (Value.int .i64))∧Below w.heap.size w w':=by
 have hmix:=mixed
 obtain⟨p,c,rfl⟩:=hl.lenG
 obtain⟨pb,cb,rfl,ho⟩:=hI.openW
 have HO:Hid _:=fun (j:Nat) (hj:j<B.length)=>ho (j:=j) hj
 clear ho
 obtain⟨i0,hi,hz0,hz1,hz2⟩:=info_parts Qff
 have hg1:Grew w (w.alloc (.cells #[.int .i64 (N:Int),.slice p L.length c] 24)):=(Grew.refl w).alloc _
 have E1:Hid ((w.alloc (.cells #[.int .i64 (N:Int),.slice p L.length c] 24)).heap.size=w.heap.size+1):=by show _=_;simp
 go_enter Tryz.func90,Tryz.ntmps90
 go_wp2_with (at_make;refine wpList_make_full _ rfl _ _ 25 rfl w.heap.size 4 i0 (.bool false) 1 Tryz.underlying25 hi hz0 hz1 .i64 .i64 _ _ N rfl rfl rfl rfl (by rw [hz2];omega) (by unfold maxLen;omega) (by simp) ?_;intro w3 hown hgrow;have hb3:Below (w.alloc (.cells #[.int .i64 (N:Int),.slice p L.length c] 24)).heap.size (w.alloc (.cells #[.int .i64 (N:Int),.slice p L.length c] 24)) w3:=YD.grown hgrow YA (fun k e=>by cases e);have q0:w3.cell? ⟨w.heap.size,0,none⟩=some (.int .i64 (N:Int)):=(hb3.cell (p:=⟨w.heap.size,0,none⟩) (by rw [E1.out];exact Nat.lt_succ_self _)).trans (Qam rfl rfl);have q1:w3.cell? ⟨w.heap.size,1,none⟩=some (.slice p L.length c):=(hb3.cell (p:=⟨w.heap.size,1,none⟩) (by rw [E1.out];exact Nat.lt_succ_self _)).trans (Qam rfl rfl);have hbw:Below w.heap.size w w3:=hg1.below.trans (hb3.mono (by rw [E1.out];omega));rw [E1.out] at hown;have hrow:=Blk.made hown;have hsz:=hrow.lt;rw [QaT,← QmV N L] at hrow;have HRow:Hid (Blk 4 w3 (w.heap.size+1) ((oddT N L (B.take 0)).map Value.bool)):=hrow;clear hown hgrow hb3 hrow;have hl1:w.heap.size<w3.heap.size:=by omega)
 obtain⟨x,hx⟩:∃ n,w.heap.size=n:=⟨_,rfl⟩
 have HBW:Hid (Below x w w3):=by rw [← hx];exact hbw
 rw [hx] at HRow hl1 hsz q0 q1 ⊢
 clear hg1 hbw hi hz0 hz1 hz2 E1
 go_loopw [14] (fun i wr=>∃ j:Nat,j≤B.length∧i = .int .i64 j∧Hid (Blk 4 wr (x+1) ((oddT N L (B.take j)).map Value.bool))∧Hid (Tch (x+1) w3 wr)) (fun i _=>B.length-(intOf i).toNat)
 case atStart=>exact⟨0,YN,rfl,HRow,Tch.refl _ _⟩
 case round=>
  obtain⟨j,hj,rfl,HR,HT⟩:=hrel
  have d0:=HT.out.cell q0 (by omega)
  have d1:=HT.out.cell q1 (by omega)
  have hbr:Below x w wr:=HT.out.below HBW.out (by omega) (by omega)
  by_cases hlt:j<B.length
  ·have hjl:(j:Int)<(B.length:Int):=by omega
   obtain⟨b2,off2,rfl,hb2,hc2⟩:=HO.out j hlt
   rw [hx] at hb2 hc2
   have c0:=hc2 wr hbr j hlt
   rw [QbJ hlt] at c0
   obtain⟨i,hi1,hi2⟩:=Qgy hB hlt
   rw [hi1] at c0
   obtain⟨b,off,rfl,hb1,hcap,hc⟩:=hl.eg hi2
   rw [hx] at hc hb1
   obtain⟨e0,e1,e2⟩:=hc wr hbr i hi2
   obtain⟨hu,hv⟩:=hE L[i] (YG hi2)
   have heA:Qca L (i:Int)=L[i]:=QbG (YB hi2)
   have HST:Hid (flipB (flipB (oddT N L (B.take j)) L[i].1) L[i].2.1=oddT N L (B.take (j+1))):=by
    have h1:=Qla (N:=N) (L:=L) (B:=B.take j) (i:=(i:Int)) (by rw [heA];exact hu) (by rw [heA];exact hv)
    rw [heA] at h1
    have h2:B.take (j+1)=B.take j++[(i:Int)]:=by rw [List.take_succ_eq_append_getElem hlt,hi1]
    show _=_
    rw [h2];exact h1
   have HLT:Hid (j<B.length):=hlt
   have hi3:(i:Int)<(L.length:Int):=by omega
   have hwx:=World.block_lt_of_cell? wr _ d0
   have hwx1:=HR.out.lt
   have HlT:Hid ((oddT N L (B.take j)).length=N):=Qbd _ _ _
   generalize oddT N L (B.take j)=T at *
   generalize L[i]=e at *
   obtain⟨u,v,wt⟩:=e
   simp only at hu hv e0 e1 e2 HST
   clear hc hc2 hi1 heA hlt hbr
   have HE6:Hid (Blk 50 (wr.alloc (.cells #[.int .i64 (u:Int),.int .i64 (v:Int),.int .i64 (wt:Int)] 50)) wr.heap.size [.int .i64 (u:Int),.int .i64 (v:Int),.int .i64 (wt:Int)]):=heap_alloc_new wr _
   have HB6:Hid (Below wr.heap.size wr (wr.alloc (.cells #[.int .i64 (u:Int),.int .i64 (v:Int),.int .i64 (wt:Int)] 50))):=YD.alloc YA _
   go_wp2
   obtain⟨w6,hw6⟩:∃ W,wr.alloc (.cells #[.int .i64 (u:Int),.int .i64 (v:Int),.int .i64 (wt:Int)] 50)=W:=⟨_,rfl⟩
   rw [hw6] at HE6 HB6 ⊢
   clear hw6 e0 e1 e2 d0 d1 c0
   have HT6:Hid (Tch (x+1) w3 w6):=HT.out.trans (Tch.of_below HB6.out)
   have HR6:Hid (Blk 4 w6 (x+1) (T.map Value.bool)):=HR.out.go HB6.out
   have hne6:wr.heap.size≠x+1:=by omega
   obtain⟨eb,heb⟩:∃ n,wr.heap.size=n:=⟨_,rfl⟩
   rw [heb] at HE6 hne6 ⊢
   clear HB6 HR HT
   have hu':(u:Int)<(N:Int):=by omega
   have hv':(v:Int)<(N:Int):=by omega
   have t0:=HR6.out.bcell (v:=u) (by rw [HlT.out];exact hu)
   have f0:=HR6.out.frozen u
   have x0:=HE6.out.cell (j:=0) rfl
   have HR7:Hid _:=HR6.out.flip u
   have HT7:Hid _:=HT6.out.set u (.bool (!bAt T u))
   have HE7:Hid (Blk 50 (w6.setCell ⟨x+1,u,none⟩ (.bool (!bAt T u))) eb [.int .i64 (u:Int),.int .i64 (v:Int),.int .i64 (wt:Int)]):=HE6.out.other hne6 _
   have HlT2:Hid ((flipB T u).length=N):=by show _=_;rw [QaP];exact HlT.out
   clear HT6 HR6 HE6
   go_big_region_o
   obtain⟨w7,hw7⟩:∃ W,(w6.setCell ⟨x+1,u,none⟩ (.bool (!bAt T u))).drew=W:=⟨_,rfl⟩
   have HR8:Hid (Blk 4 w7 (x+1) ((flipB T u).map Value.bool)):=by rw [← hw7];exact HR7.out
   have HT8:Hid (Tch (x+1) w3 w7):=by rw [← hw7];exact HT7.out.drew
   have HE8:Hid (Blk 50 w7 eb [.int .i64 (u:Int),.int .i64 (v:Int),.int .i64 (wt:Int)]):=by rw [← hw7];exact HE7.out
   rw [hw7]
   clear hw7 HR7 HT7 HE7 t0 f0 x0
   generalize flipB T u=T2 at *
   have t0:=HR8.out.bcell (v:=v) (by rw [HlT2.out];exact hv)
   have f0:=HR8.out.frozen v
   have x1:=HE8.out.cell (j:=1) rfl
   have HR9:Hid _:=HR8.out.flip v
   have HT9:Hid _:=HT8.out.set v (.bool (!bAt T2 v))
   clear HT8 HR8 HE8
   go_wp2
   go_big_region_o
   go_wp2
   refine⟨⟨j+1,HLT.out,by go_num,?_,HT9.out.drew⟩,by have:=HLT.out;simp [intOf];omega⟩
   rw [← HST.out]
   exact HR9.out
  ·obtain rfl:j=B.length:=by omega
   have HF:Hid (Bools wr.heap.size wr (.slice (some ⟨x+1,0,none⟩) N N) (oddT N L B)):=by
    have h1:=HR.out
    rw [List.take_length] at h1
    exact h1.boolsT (Qbd _ _ _)
   have htr:=QbX (oddT N L B) (by rw [Qbd];omega) _ wr HF.out
   have HBr:Hid (Below x w wr):=hbr
   clear hbr HR HT d0 d1
   go_wp2_with fail
   refine htr.mono ?_
   rintro e w9 ⟨lv,rfl,ho9,hb9⟩
   have HO9:Hid _:=ho9
   clear ho9 htr
   go_wp2
   go_ret
   rw [hx]
   exact⟨lv,rfl,QaW HO9.out (by have:=HBr.out.size;omega),HBr.out.trans (hb9.mono (by have:=HBr.out.size;omega))⟩
def unE (e:Ed):Eg:=(e.1.toNat,e.2.1.toNat,e.2.2.toNat)
theorem Qoo (L:List Eg):(L.map edE).map unE=L:=by
 rw [List.map_map]
 have:(unE ∘ edE)=id:=by funext e;simp [unE,edE]
 rw [this,List.map_id]
def oddK (n:Int)(l:List Ed)(B:List Int):List Int:=if rgtW n l=0∧plcB l.length B=true then oddV n.toNat (l.map unE) B else []
theorem QoO {N:Nat}{L:List Eg}{B:List Int}(h:rgtW (N:Int) (L.map edE)=0)(hB:plcB L.length B=true):oddK (N:Int) (L.map edE) B=oddV N L B:=by
 unfold oddK
 rw [if_pos ⟨h,by rw [List.length_map];exact hB⟩,Qoo,YM]
theorem QmW {n:Int}{l:List Ed}{B:List Int}(h:rgtW n l≠0):oddK n l B=[]:=if_neg fun e=>h e.1
theorem Qlc {n:Int}{l:List Ed}{B:List Int}(h:plcB l.length B=false):oddK n l B=[]:=if_neg fun e=>by rw [h] at e;exact absurd e.2 (by simp)
def noneB (m:Nat)(x:Int):Bool:=decide (x<0) || decide ((m:Int)≤x)
theorem QiE (m:Nat)(B:List Int):B.any (noneB m) = !plcB m B:=by
 cases h:plcB m B with
 | true=>
  rw [Bool.not_true,List.any_eq_false]
  intro x hx
  have:=plc_iff.1 h x hx
  simp [noneB];omega
 | false=>
  rw [Bool.not_false,List.any_eq_true]
  have h2:¬ ∀ x∈B,0≤x∧x<(m:Int):=fun h3=>by rw [plc_iff.2 h3] at h;cases h
  rw [Classical.not_forall] at h2
  obtain⟨x,h3⟩:=h2
  rw [Classical.not_imp] at h3
  exact⟨x,h3.1,by simp [noneB];omega⟩
theorem QiD (x:Int)(p:Option Addr)(m c mb:Nat)(w:World)(h1:w.cell? ⟨mb,1,none⟩=some (.slice p m c)):
  Calls Tryz.prog 89 #[.int .i64 x,.pointer (some ⟨mb,0,none⟩)] w fun e w'=>e = .returned (.bool (noneB m x))∧w'=w:=by
 by_cases hx:x<0
 ·have HE:Hid (noneB m x=true):=by simp [Hid,noneB,hx]
  go_enter Tryz.func89,Tryz.ntmps89
  go_wp2
  go_ret
  exact⟨by rw [HE.out];rfl,rfl⟩
 ·have HE:Hid (noneB m x=decide ((m:Int)≤x)):=by simp [Hid,noneB,hx]
  go_enter Tryz.func89,Tryz.ntmps89
  go_wp2
  go_ret
  exact⟨by rw [HE.out];rfl,rfl⟩
theorem QoM (n:Int)(l:List Ed)(B:List Int)(hBl:B.length≤8388608)(sv bv:Value)(w:World)(hl:Edges w.heap.size w sv l)(hI:Ints w.heap.size w bv B):
  Calls Tryz.prog 65 #[.agg #[.int .i64 n,sv],bv] w fun r w'=>∃ rv,r = .returned rv∧Ints w'.heap.size w' rv (oddK n l B)∧Below w.heap.size w w':=by
 obtain⟨p,c,rfl⟩:=hl.len
 have hg1:Grew w (w.alloc (.cells #[.int .i64 n,.slice p l.length c] 24)):=(Grew.refl w).alloc _
 have hrt:=Qdl n l _ _ (hl.go hg1.below)
 by_cases hk:rgtW n l=0
 ·obtain⟨N,L,rfl,hN,rfl,hm,hE,hW⟩:=Qgr hk
  rw [hk] at hrt
  rw [List.length_map] at hrt hg1 ⊢
  have hent:∀ (args:Array Value) (W:World),(callFunc 89 args).run Tryz.prog W = .ok (.enter 89 args) W:=fun args W=>by kernel_rfl
  cases hP:plcB L.length B with
  | false=>
   have HE:Hid (oddK (N:Int) (L.map edE) B=[]):=Qlc (by rw [List.length_map];exact hP)
   have HA:Hid (B.any (noneB L.length)=true):=by show _=_;rw [QiE,hP];rfl
   have HI:Hid (Ints w.heap.size w bv B):=hI
   obtain⟨pb,cb,rfl⟩:=hI.len
   clear hk hI hl
   go_enter Tryz.func65,Tryz.ntmps65
   go_wp2_with fail
   refine hrt.mono ?_
   rintro e w1 ⟨rfl,hg2⟩
   clear hrt
   have q1:=(box2 _ hg2).2
   have hbw:Below w.heap.size w w1:=(hg1.trans hg2).below
   have hcf:=Qc9 89 #[.pointer (some ⟨w.heap.size,0,none⟩)] (noneB L.length) hent B hBl (.slice pb B.length cb) w1.heap.size w1 (HI.out.below hbw |>.mono hbw.size) (fun x _=>QiD x p L.length c w.heap.size w1 q1)
   rw [HA.out] at hcf
   go_wp2_with fail
   refine hcf.mono ?_
   rintro e w2 ⟨rfl,rfl⟩
   clear hcf
   go_wp2
   go_ret
   exact⟨_,rfl,by rw [HE.out];exact Vals.nil _ _ _ _,hbw⟩
  | true=>
   have HE:Hid (oddK (N:Int) (L.map edE) B=oddV N L B):=QoO hk hP
   have HA:Hid (B.any (noneB L.length)=false):=by show _=_;rw [QiE,hP];rfl
   have HI:Hid (Ints w.heap.size w bv B):=hI
   have HLe:Hid (Edges w.heap.size w (.slice p L.length c) (L.map edE)):=by rw [List.length_map] at hl;exact hl
   obtain⟨pb,cb,rfl⟩:=hI.len
   clear hk hI hl
   go_enter Tryz.func65,Tryz.ntmps65
   go_wp2_with fail
   refine hrt.mono ?_
   rintro e w1 ⟨rfl,hg2⟩
   clear hrt
   have q0:=(box2 _ hg2).1
   have q1:=(box2 _ hg2).2
   have hbw:Below w.heap.size w w1:=(hg1.trans hg2).below
   have hcf:=Qc9 89 #[.pointer (some ⟨w.heap.size,0,none⟩)] (noneB L.length) hent B hBl (.slice pb B.length cb) w1.heap.size w1 (HI.out.below hbw |>.mono hbw.size) (fun x _=>QiD x p L.length c w.heap.size w1 q1)
   rw [HA.out] at hcf
   have hod:=Qlb N L B hN hE hP hBl _ _ w1 ((HLe.out.below hbw).mono hbw.size) ((HI.out.below hbw).mono hbw.size)
   go_wp2_with fail
   refine hcf.mono ?_
   rintro e w2 ⟨rfl,rfl⟩
   clear hcf
   go_wp2_with fail
   refine hod.mono ?_
   rintro e w3 ⟨lv,rfl,ho,hb3⟩
   have HO:Hid _:=ho
   clear hod ho
   go_wp2
   go_ret
   exact⟨_,rfl,by rw [HE.out];exact QbE HO.out,hbw.trans (hb3.mono hbw.size)⟩
 ·have HE:Hid (oddK n l B=[]):=QmW hk
  generalize rgtW n l=k at hrt hk
  have hk':(k==0)=false:=by simpa using hk
  go_enter Tryz.func65,Tryz.ntmps65
  go_wp2_with fail
  refine hrt.mono ?_
  rintro e w1 ⟨rfl,hg2⟩
  clear hrt
  go_wp2
  go_ret
  exact⟨_,rfl,by rw [HE.out];exact Vals.nil _ _ _ _,(hg1.trans hg2).below⟩
def negB (e:Ed):Bool:=decide (e.2.2<0)
def sumC (l:List Ed)(k:Nat):Int:=((l.take k).map fun e=>e.2.2).sum
theorem Qd6 {l:List Ed}{k:Nat}(h:k<l.length):sumC l (k+1)=sumC l k+l[k].2.2:=by
 unfold sumC
 rw [List.take_succ_eq_append_getElem h,List.map_append,List.sum_append]
 simp
theorem Qfv {l:List Ed}(h:∀ e∈l,-2147483648≤e.2.2∧e.2.2≤2147483648):∀ k:Nat,k≤l.length→-((k:Int)*2147483648)≤sumC l k∧sumC l k≤(k:Int)*2147483648:=by
 intro k
 induction k with
 | zero=>intro _;simp [sumC]
 | succ k ih=>
  intro hk
  have ih':=ih (by omega)
  have h1:=h l[k] (YG (by omega))
  rw [Qd6 (by omega)]
  generalize sumC l k=s at *
  generalize l[k].2.2=t at *
  omega
def LDr (n:Nat)(W:World)(sv:Value)(LL:List (List Dt)):Prop:=
 ((∃ p c,sv = .slice p 0 c)∧LL=[])∨∃ b off cap,sv = .slice (some ⟨b,off,none⟩) LL.length cap∧b<n∧LL.length≤cap∧∀ (j:Nat) (x:List Dt),LL[j]? = some x→∃ sx,W.cell? ⟨b,off+j,none⟩=some sx∧Drts n W sx x
theorem LDr.below {n:Nat}{W W':World}{sv:Value}{LL:List (List Dt)}(h:LDr n W sv LL)(hb:Below n W W'):LDr n W' sv LL:=by
 rcases h with h | ⟨b,off,cap,h1,h2,h3,h4⟩
 ·exact .inl h
 ·exact .inr ⟨b,off,cap,h1,h2,h3,fun j x hx=>by
   obtain⟨sx,h5,h6⟩:=h4 j x hx
   exact⟨sx,(hb.cell (p:=⟨b,_,none⟩) h2).trans h5,h6.below hb⟩⟩
theorem LDr.mono {n m:Nat}{W:World}{sv:Value}{LL:List (List Dt)}(h:LDr n W sv LL)(hb:n≤m):LDr m W sv LL:=by
 rcases h with h | ⟨b,off,cap,h1,h2,h3,h4⟩
 ·exact .inl h
 ·exact .inr ⟨b,off,cap,h1,Nat.lt_of_lt_of_le h2 hb,h3,fun j x hx=>by
   obtain⟨sx,h5,h6⟩:=h4 j x hx
   exact⟨sx,h5,h6.mono hb⟩⟩
theorem LDr.go {W W':World}{sv:Value}{LL:List (List Dt)}(h:LDr W.heap.size W sv LL)(hb:Below W.heap.size W W'):LDr W'.heap.size W' sv LL:=(h.below hb).mono hb.size
theorem LDr.len {n:Nat}{W:World}{sv:Value}{LL:List (List Dt)}(h:LDr n W sv LL):∃ p c,sv = .slice p LL.length c:=by
 rcases h with ⟨⟨p,c,rfl⟩,rfl⟩ | ⟨b,off,cap,rfl,_⟩ <;> exact⟨_,_,rfl⟩
theorem LDr.cellAt {n:Nat}{w:World}{p:Option Addr}{c:Nat}{L:List (List Dt)}(h:LDr n w (.slice p L.length c) L){j:Nat}(hj:j<L.length):
  ∃ b off,p=some ⟨b,off,none⟩∧b<n∧L.length≤c∧∃ px cx,Drts n w (.slice px L[j].length cx) L[j]∧w.cell? ⟨b,off+j,none⟩=some (.slice px L[j].length cx):=by
 rcases h with ⟨_,h0⟩ | ⟨b,off,cap,h1,h2,h3,h4⟩
 ·subst h0;simp at hj
 ·simp only [Value.slice.injEq] at h1
  obtain⟨rfl,_,rfl⟩:=h1
  obtain⟨sx,h5,h6⟩:=h4 j _ (YB hj)
  obtain⟨px,cx,rfl⟩:=h6.len
  exact⟨b,off,rfl,h2,h3,px,cx,h6,h5⟩
theorem GrpD.ldr {h0:Nat}{lv:Value}{svs:List Value}{pre:List (List Dt)}{W:World}(h:GrpD h0 lv svs pre W):LDr W.heap.size W lv pre:=by
 have hlen:=h.len
 rcases h.own.2 with ⟨rfl,h1⟩ | ⟨g,cap,cur,rfl,hb,hg,hn,hc⟩
 ·exact .inl ⟨⟨_,_,rfl⟩,List.eq_nil_of_length_eq_zero (by omega)⟩
 ·refine .inr ⟨g,0,cap,by rw [hlen],(Array.getElem?_eq_some_iff.1 hg).1,by omega,fun j x hx=>?_⟩
  have hj:=(YE hx).1
  obtain⟨sx,hs⟩:∃ sx,svs[j]? = some sx:=⟨_,YB (by omega)⟩
  refine⟨sx,?_,Drts.of_owns (h.inn j sx x hs hx)⟩
  have:=h.own.cells (g:=g) rfl j sx hs
  rwa [Go.WideShapes.add_plain] at this
theorem askN {d:Dt}{w:World}:∀ (es:List MapEntry) (L:List (Dt × Int)) (i:Nat),es.map (fun e=>(e.key,e.val))=L.map (fun p=>(encD p.1,.int .i64 p.2)) →
  (Instr.findAsking 91 (encD d) es i).run Tryz.prog w = .ok ((L.findIdx? fun p=>decide (d=p.1)).map fun k=>(i+k,Value.int .i64 (L.getD k ((0,0),0)).2)) w
 | [],[],i,_=>by simp [Instr.findAsking]
 | [],p :: L,i,h=>by simp at h
 | e :: es,[],i,h=>by simp at h
 | e :: es,p :: L,i,h=>by
  rw [List.map_cons,List.map_cons,List.cons.injEq,Prod.mk.injEq] at h
  obtain⟨⟨h1,h2⟩,h3⟩:=h
  have ih:=askN (d:=d) (w:=w) es L (i+1) h3
  unfold Instr.findAsking
  rw [h1,List.findIdx?_cons]
  by_cases hd:d=p.1
  ·simp [QfU,hd,h2]
  ·simp only [Sem.run_bind,QfU,decide_eq_false hd,Result.andThen_ok,Bool.false_eq_true,if_false,ih]
   congr 1
   cases L.findIdx? fun p=>decide (d=p.1) with
   | none=>rfl
   | some k=>
    simp only [Option.map_some,Option.some.injEq,Prod.mk.injEq,List.getD_cons_succ,and_true]
    omega
theorem findN {d:Dt}{w:World}{es:List MapEntry}{L:List (Dt × Int)}(h:es.map (fun e=>(e.key,e.val))=L.map (fun p=>(encD p.1,.int .i64 p.2))):
  (Instr.findKey 91 (encD d) es).run Tryz.prog w = .ok ((L.findIdx? fun p=>decide (d=p.1)).map fun k=>(k,Value.int .i64 (L.getD k ((0,0),0)).2)) w:=by
 have ha:=askN (d:=d) (w:=w) es L 0 h
 simp only [Nat.zero_add] at ha
 cases es with
 | nil=>
  cases L with
  | nil=>simp [Instr.findKey,run_underlying Tryz.underlying91,Instr.findNow]
  | cons p L=>simp at h
 | cons e es=>
  cases L with
  | nil=>simp at h
  | cons p L=>
   rw [List.map_cons,List.map_cons,List.cons.injEq,Prod.mk.injEq] at h
   simp [Instr.findKey,run_underlying Tryz.underlying91,Instr.findNow,Instr.sameNow,encD,h.1.1]
   exact ha
def MapN (w:World)(m:Nat)(L:List (Dt × Int)):Prop:=∃ es ck,w.heap[m]? = some (.map es ck)∧es.toList.map (fun e=>(e.key,e.val))=L.map (fun p=>(encD p.1,.int .i64 p.2))
theorem MapN.lt {w:World}{m:Nat}{L:List (Dt × Int)}(h:MapN w m L):m<w.heap.size:=by
 obtain⟨es,ck,h1,_⟩:=h
 exact (Array.getElem?_eq_some_iff.1 h1).1
theorem MapN.keep {w w':World}{m:Nat}{L:List (Dt × Int)}(h:MapN w m L)(hb:w'.heap[m]? = w.heap[m]?):MapN w' m L:=by
 obtain⟨es,ck,h1,h2⟩:=h
 exact⟨es,ck,hb.trans h1,h2⟩
theorem MapN.start (w:World):MapN (w.alloc (.map #[] 0)) w.heap.size []:=⟨#[],0,(MapKept.heap_alloc w _).1,rfl⟩
def lkN (L:List (Dt × Int))(d:Dt):Option Int:=(L.find? fun p=>decide (d=p.1)).map (·.2)
theorem MapN.lookup {w:World}{m:Nat}{L:List (Dt × Int)}(h:MapN w m L)(d:Dt):
  (Instr.lookup 106 (.map (some m)) (encD d) false).run Tryz.prog w = .ok (.int .i64 ((lkN L d).getD 0)) w:=by
 obtain⟨es,ck,h1,h2⟩:=h
 have hf:=findN (d:=d) (w:=w) h2
 have e1:(L.findIdx? fun p=>decide (d=p.1)).isSome=(lkN L d).isSome:=by
  unfold lkN
  rw [Option.isSome_map,List.findIdx?_isSome,Bool.eq_iff_iff,List.find?_isSome,List.any_eq_true]
 have e2:∀ k,(L.findIdx? fun p=>decide (d=p.1))=some k→lkN L d=some (L.getD k ((0,0),0)).2:=fun k hk=>by
  obtain⟨hlt,hp,hno⟩:=List.findIdx?_eq_some_iff_getElem.1 hk
  unfold lkN
  have e:(L.find? fun p=>decide (d=p.1))=some L[k]:=List.find?_eq_some_iff_getElem.2 ⟨hp,k,hlt,rfl,fun j hj=>by simpa using hno j hj⟩
  rw [e]
  simp [hlt]
 cases hk:L.findIdx? fun p=>decide (d=p.1) with
 | none=>
  rw [hk] at hf e1
  have e3:lkN L d=none:=by
   cases hl:lkN L d with
   | none=>rfl
   | some x=>rw [hl] at e1;cases e1
  simp [Instr.lookup,run_underlying Tryz.underlying106,MapKept.run_getObj_map h1,QdM,hf,e3]
 | some k=>
  rw [hk] at hf
  have e3:=e2 k hk
  simp [Instr.lookup,run_underlying Tryz.underlying106,MapKept.run_getObj_map h1,QdM,hf,e3]
theorem MapN.update {w:World}{m:Nat}{L:List (Dt × Int)}(h:MapN w m L){d:Dt}(hd:∀ p∈L,p.1≠d)(e:Int):
  ∃ w',(Instr.mapUpdate 106 (.map (some m)) (encD d) (.int .i64 e)).run Tryz.prog w = .ok () w'∧MapN w' m (L++[(d,e)])∧w.grownBy w' (some m):=by
 obtain⟨es,ck,h1,h2⟩:=h
 have hf:=findN (d:=d) (w:=w) h2
 have hno:(L.findIdx? fun p=>decide (d=p.1))=none:=by
  rw [List.findIdx?_eq_none_iff]
  intro p hp
  have:=hd p hp
  simp
  exact fun e=>this e.symm
 rw [hno] at hf
 have hlt:=(Array.getElem?_eq_some_iff.1 h1).1
 refine⟨{ w with heap:=w.heap.setIfInBounds m (.map (es.push { key:=encD d,val:=.int .i64 e,born:=ck }) (ck+1)) },?_,⟨es.push { key:=encD d,val:=.int .i64 e,born:=ck },ck+1,by simp [hlt],?_⟩,⟨rfl,rfl,rfl,by simp,fun i _ hi=>?_⟩⟩
 ·simp [Instr.mapUpdate,run_underlying Tryz.underlying106,MapKept.run_getObj_map h1,QdM,hf,MapKept.run_setObj_map _ h1]
 ·rw [Array.toList_push,List.map_append,h2,List.map_append]
  rfl
 ·have:m≠i:=fun e=>hi (by rw [e])
  simp [this]
theorem Qg9 (w:World){ops:Array Oper}{rest:List Oper}{o:Oper}{a:Act}{Q:Exit→Act→World→Prop}
  (hg:o.guard=none) (m x v:Operand) (hop:o.op=Op.mapUpdate 106 m x v) (M:Nat) (L:List (Dt × Int)) (d:Dt) (e:Int)
  (hm:a.eval m = .map (some M)) (h:MapN w M L) (hd:∀ p∈L,p.1≠d) (hx:a.eval x=encD d) (hv:a.eval v = .int .i64 e)
  (hK:∀ w',MapN w' M (L++[(d,e)])→w.grownBy w' (some M)→wpList Tryz.prog ops Q rest (a.put o.dst undef) w') :
  wpList Tryz.prog ops Q (o :: rest) a w:=by
 refine wpList_plain hg fun K' hK'=>?_
 obtain⟨w',hrun,r1,r2⟩:=h.update hd e
 unfold Oper.wp
 simp [execOp,hop,hm,hx,hv,hrun,Result.andThen]
 exact hK' _ _ (hK w' r1 r2)
def entL (fs:List (List Dt))(j:Nat):List (Dt × Int):=(List.range j).flatMap fun (v:Nat)=>(fs.getD v []).map fun d=>(d,(v:Int))
theorem Qg1 (fs:List (List Dt))(j:Nat):entL fs (j+1)=entL fs j++(fs.getD j []).map fun d=>(d,(j:Int)):=by
 unfold entL
 rw [List.range_succ,List.flatMap_append]
 simp
theorem QeK (fs:List (List Dt)):∀ j,(entL fs j).map Prod.fst=(fs.take j).flatten
 | 0=>rfl
 | j+1=>by
  rw [Qg1,List.map_append,QeK fs j,List.take_add_one,List.flatten_append,List.map_map,YC]
  congr 1
  cases fs[j]? <;> simp [Function.comp_def]
theorem Qo9 {fs:List (List Dt)}(hn:fs.flatten.Nodup){j k:Nat}(hj:j<fs.length)(hk:k<fs[j].length):∀ p∈entL fs j++(fs[j].take k).map fun d=>(d,(j:Int)),p.1≠fs[j][k]:=by
 intro p hp e
 have e1:fs.flatten=(fs.take j).flatten++(fs[j]++(fs.drop (j+1)).flatten):=by
  conv=>lhs;rw [← List.take_append_drop j fs,List.drop_eq_getElem_cons hj]
  rw [List.flatten_append,List.flatten_cons]
 rw [e1] at hn
 obtain⟨_,h2,h3⟩:=List.nodup_append.1 hn
 rcases YJ hp with h | h
 ·have h4:p.1∈(fs.take j).flatten:=by
   rw [← QeK]
   exact List.mem_map_of_mem h
  exact h3 _ h4 _ (List.mem_append_left _ (YG hk)) e
 ·obtain⟨d,hd,rfl⟩:=List.mem_map.1 h
  obtain⟨i,hi,hid⟩:=List.mem_take_iff_getElem.1 hd
  have h5:=(List.nodup_append.1 h2).1
  simp only at e
  rw [← hid] at e
  have:=(List.getElem_inj h5).1 e
  omega
def faceOf (fs:List (List Dt))(d:Dt):Int:=(lkN (entL fs fs.length) d).getD 0
def Qb1 (fs:List (List Dt))(l:List Ed):List Dt:=l.map fun e=>(faceOf fs (e.1,e.2.1),faceOf fs (e.2.1,e.1))
theorem QeJ {fs:List (List Dt)}(hn:fs.flatten.Nodup){i:Nat}(hi:i<fs.length){d:Dt}(hd:d∈fs[i]):faceOf fs d=(i:Int):=by
 have hm:(d,(i:Int))∈entL fs fs.length:=by
  unfold entL
  refine List.mem_flatMap.2 ⟨i,List.mem_range.2 hi,?_⟩
  rw [YC,YB hi]
  exact List.mem_map_of_mem hd
 have hk:((entL fs fs.length).map Prod.fst).Nodup:=by rw [QeK,List.take_length];exact hn
 unfold faceOf lkN
 cases hf:(entL fs fs.length).find? fun p=>decide (d=p.1) with
 | none=>
  have:=List.find?_eq_none.1 hf _ hm
  simp at this
 | some q=>
  have h1:=List.find?_some hf
  have h2:=List.mem_of_find?_eq_some hf
  obtain⟨a,ha,ea⟩:=List.mem_iff_getElem.1 hm
  obtain⟨b,hb,eb⟩:=List.mem_iff_getElem.1 h2
  have e3:((entL fs fs.length).map Prod.fst)[a]'(by simpa using ha)=((entL fs fs.length).map Prod.fst)[b]'(by simpa using hb):=by
   simp only [List.getElem_map,ea,eb]
   simpa using h1
  have e4:=(List.getElem_inj hk).1 e3
  subst e4
  rw [ea] at eb
  rw [← eb]
  rfl
theorem Qjq (n:Nat):(madeCells (Value.agg #[.int .i64 0,.int .i64 0]).cells (n*2)).toList=flatD (List.replicate n (0,0)):=by
 apply List.ext_getElem
 ·rw [Qa8]
  simp [madeCells]
 ·intro i h1 h2
  rw [Qa8,List.length_replicate] at h2
  obtain⟨k0,k1⟩:=QbQ (L:=List.replicate n ((0,0):Dt)) (j:=i / 2) (x:=(0,0)) (by rw [List.getElem?_replicate,if_pos (by omega)])
  have hz:(Value.agg #[.int .i64 0,.int .i64 0]).cells = #[.int .i64 0,.int .i64 0]:=by kernel_rfl
  rcases Nat.mod_two_eq_zero_or_one i with h0 | h0
  ·rw [show i / 2*2=i by omega] at k0
   rw [YB (by rw [Qa8,List.length_replicate];exact h2)] at k0
   rw [Option.some.inj k0]
   simp [madeCells,hz,h0]
  ·rw [show i / 2*2+1=i by omega] at k1
   rw [YB (by rw [Qa8,List.length_replicate];exact h2)] at k1
   rw [Option.some.inj k1]
   simp [madeCells,hz,h0]
theorem QgV:∀ (L:List Dt) (j:Nat) (a b:Int),j<L.length→((flatD L).set (j*2) (.int .i64 a)).set (j*2+1) (.int .i64 b)=flatD (L.set j (a,b))
 | [],j,a,b,h=>by simp at h
 | d :: L,0,a,b,h=>rfl
 | d :: L,j+1,a,b,h=>by
  have h':j<L.length:=by simpa using h
  have ih:=QgV L j a b h'
  have e:flatD (d :: L) = .int .i64 d.1 :: .int .i64 d.2 :: flatD L:=rfl
  have e2:∀ (x y a b:Value) (F:List Value),((x :: y :: F).set (j*2+1+1) a).set (j*2+1+1+1) b=x :: y :: ((F.set (j*2) a).set (j*2+1) b):=fun _ _ _ _ _=>rfl
  rw [e,show (j+1)*2=j*2+1+1 by omega,e2,ih]
  rfl
def sideH (fs:List (List Dt))(l:List Ed)(j:Nat):List Dt:=(Qb1 fs (l.take j))++List.replicate (l.length-j) (0,0)
theorem Qjc (fs:List (List Dt))(l:List Ed):sideH fs l 0=List.replicate l.length (0,0):=by simp [sideH,Qb1]
theorem Qje (fs:List (List Dt))(l:List Ed):sideH fs l l.length=Qb1 fs l:=by simp [sideH]
theorem QkA (fs:List (List Dt))(l:List Ed){j:Nat}(h:j≤l.length):(sideH fs l j).length=l.length:=by
 simp [sideH,Qb1]
 omega
theorem Qjd (fs:List (List Dt))(l:List Ed){j:Nat}(h:j<l.length):(sideH fs l j).set j (faceOf fs (l[j].1,l[j].2.1),faceOf fs (l[j].2.1,l[j].1))=sideH fs l (j+1):=by
 unfold sideH Qb1
 have e:l.length-j=(l.length-(j+1))+1:=by omega
 have h1:((l.take j).map fun e:Ed=>(faceOf fs (e.1,e.2.1),faceOf fs (e.2.1,e.1))).length=j:=by simp;omega
 rw [List.set_append,h1,if_neg (Nat.lt_irrefl j),Nat.sub_self,e,List.replicate_succ,List.set_cons_zero,List.take_add_one,YB h,List.map_append,List.append_assoc]
 rfl
theorem QpD:(Tryz.prog.info? 80).map (fun i=>(i.zero,i.size,i.bytes))=some (some (.agg #[.int .i64 0,.int .i64 0]),2,16):=by kernel_rfl
theorem Qkz (n:Int)(l:List Ed)(hm:l.length≤4194304)(fs:List (List Dt))(hf:fs.length≤16777216)(hin:∀ x∈fs,x.length≤16777216)(hnd:fs.flatten.Nodup)(sv lv:Value)(w:World)(hl:Edges w.heap.size w sv l)(hg:LDr w.heap.size w lv fs):
  Calls Tryz.prog 58 #[.agg #[.int .i64 n,sv],lv] w fun e w'=>∃ g,e = .returned (.slice (some ⟨g,0,none⟩) l.length l.length)∧w.heap.size≤g∧Blk 80 w' g (flatD (Qb1 fs l))∧Below w.heap.size w w':=by
 obtain⟨p,c,rfl⟩:=hl.len
 obtain⟨pg,cg,rfl⟩:=hg.len
 obtain⟨i0,hi,hz0,hz1,hz2⟩:=info_parts QpD
 have hbA:Below w.heap.size w (w.alloc (.cells #[.int .i64 n,.slice p l.length c] 24)):=YD.alloc YA _
 have hX:Blk 24 (w.alloc (.cells #[.int .i64 n,.slice p l.length c] 24)) w.heap.size [.int .i64 n,.slice p l.length c]:=heap_alloc_new w _
 have q1:=hX.cell (j:=1) rfl
 have hs1:(w.alloc (.cells #[.int .i64 n,.slice p l.length c] 24)).heap.size=w.heap.size+1:=by simp
 have HL:Hid (Edges w.heap.size w (.slice p l.length c) l):=hl
 have HG:Hid (LDr w.heap.size w (.slice pg fs.length cg) fs):=hg
 have HND:Hid fs.flatten.Nodup:=hnd
 have HIN:Hid (∀ x∈fs,x.length≤16777216):=hin
 clear hl hg hnd hin
 go_enter Tryz.func58,Tryz.ntmps58
 generalize hw1:w.alloc (.cells #[.int .i64 n,.slice p l.length c] 24)=w1 at *
 have hwp:IntKind.i64.wrap (2*(l.length:Int))=2*(l.length:Int):=QaU _ (by omega) (by omega)
 have hmm:(Instr.makeMap 106 (some (.int .i64 (2*(l.length:Int))))).run Tryz.prog w1 = .ok (.map (some w1.heap.size)) (w1.alloc (.map #[] 0)):=by
  simp [Instr.makeMap,run_underlying Tryz.underlying106,asInt]
  rfl
 have hM0:MapN (w1.alloc (.map #[] 0)) (w.heap.size+1) []:=by rw [← hs1];exact MapN.start w1
 have hbB:Below (w.heap.size+1) w1 (w1.alloc (.map #[] 0)):=YD.alloc (by omega) _
 go_wp2
 generalize hwm:w.heap.size+1=m at *
 generalize w1.alloc (.map #[] 0)=w2 at *
 clear hwp hmm hX
 go_loopw [20] (fun iv wr=>∃ j:Nat,j≤fs.length∧iv = .int .i64 j∧Hid (MapN wr m (entL fs j))∧Below m w1 wr) (fun i _=>fs.length-(intOf i).toNat)
 case atStart=>exact⟨0,YN,rfl,hM0,hbB⟩
 case round=>
  obtain⟨j,hj,rfl,HMj,hb⟩:=hrel
  have hbw:Below w.heap.size w wr:=hbA.trans (hb.mono (by omega))
  by_cases hlt:j<fs.length
  ·have hjl:(j:Int)<(fs.length:Int):=by omega
   obtain⟨b,off,rfl,hbb,hcap,px,cx,hIx,c0⟩:=(HG.out.below hbw).cellAt hlt
   have hxl:=HIN.out fs[j] (YG hlt)
   have hg:fs.getD j []=fs[j]:=by rw [YC,YB hlt];rfl
   have HNX:Hid (entL fs (j+1)=entL fs j++(fs[j].take fs[j].length).map fun d=>(d,(j:Int))):=by rw [Hid,Qg1,hg,List.take_length]
   have HNW:Hid (∀ k (hk:k<fs[j].length),∀ q∈entL fs j++(fs[j].take k).map fun d=>(d,(j:Int)),q.1≠fs[j][k]):=fun k hk=>Qo9 HND.out hlt hk
   have HBW:Hid (Below w.heap.size w wr):=hbw
   have HIX:Hid (Drts w.heap.size wr (.slice px fs[j].length cx) fs[j]):=hIx
   clear hg hIx hbw
   generalize fs[j]=X at *
   generalize wr=w4 at *
   go_wp2
   go_loopw [27] (fun iv wx=>∃ k:Nat,k≤X.length∧iv = .int .i64 k∧Hid (MapN wx m (entL fs j++(X.take k).map fun d=>(d,(j:Int))))∧Below m w4 wx) (fun i _=>X.length-(intOf i).toNat)
   case atStart=>exact⟨0,YN,rfl,by unfold Hid;simpa using HMj.out,YD⟩
   case round=>
    obtain⟨k,hk,rfl,HMk,hbk⟩:=hrel
    by_cases hkl:k<X.length
    ·have hkl':(k:Int)<(X.length:Int):=by omega
     obtain⟨b2,off2,hpx,hbb2,hcap2,c2,c3⟩:=(HIX.out.below (hbk.mono (by omega))).cellAt hkl
     have HNK:Hid _:=HNW.out k hkl
     have HRS:Hid ((X.take (k+1)).map (fun d=>(d,(j:Int)))=(X.take k).map (fun d=>(d,(j:Int)))++[(X[k],(j:Int))]):=by
      unfold Hid
      rw [List.take_add_one,YB hkl,List.map_append]
      rfl
     subst hpx
     have hms:m<wr.heap.size:=HMk.out.lt
     generalize X[k]=x at *
     obtain⟨xa,xb⟩:=x
     simp only at c2 c3
     have HBK:Hid (Below m w4 wr):=hbk
     have hbN:Below wr.heap.size wr (wr.alloc (.cells #[.int .i64 xa,.int .i64 xb] 91)):=YD.alloc YA _
     have HMN:Hid (MapN (wr.alloc (.cells #[.int .i64 xa,.int .i64 xb] 91)) m (entL fs j++(X.take k).map fun d=>(d,(j:Int)))):=HMk.out.keep (hbN.block m hms)
     clear hbk HMk hbN
     go_wp2_with (at_mapUpdate;refine Qg9 _ rfl _ _ _ rfl m (entL fs j++(X.take k).map fun d=>(d,(j:Int))) (xa,xb) (j:Int) rfl HMN.out HNK.out rfl rfl ?_;intro w5 hM5 hg5)
     have HM5:Hid (MapN w5 m (entL fs j++(X.take (k+1)).map fun d=>(d,(j:Int)))):=by rw [Hid,HRS.out,← List.append_assoc];exact hM5
     have hb5:Below m w4 w5:=(HBK.out.alloc (by omega) _).grown hg5 (by simp;omega) (fun q e=>by cases e;exact YA)
     exact⟨⟨k+1,by omega,by go_num,HM5,hb5⟩,by simp [intOf];omega⟩
    ·obtain rfl:k=X.length:=by omega
     have hkl':¬ (X.length:Int)<(X.length:Int):=by omega
     go_wp2
     exact⟨⟨j+1,by omega,by go_num,by rw [HNX.out];exact HMk.out,hb.trans hbk⟩,by simp [intOf];omega⟩
  ·obtain rfl:j=fs.length:=by omega
   have hjl:¬ (fs.length:Int)<(fs.length:Int):=by omega
   have y1:=(hb.cell (p:=⟨w.heap.size,1,none⟩) (by simp only;omega)).trans q1
   have hms:m<wr.heap.size:=HMj.out.lt
   clear q1 hM0 hbB HG HIN HND hj hlt
   go_wp2_with (at_make;refine wpList_make_full _ rfl _ _ 78 rfl m 80 i0 (.agg #[.int .i64 0,.int .i64 0]) 2 Tryz.underlying78 hi hz0 hz1 .i64 .i64 _ _ l.length rfl rfl rfl rfl (by rw [hz2];omega) (by unfold maxLen;omega) (Nat.le_of_lt hms) ?_;intro w3 hown hgrow;have hb3:Below wr.heap.size wr w3:=YD.grown hgrow YA (fun k e=>by cases e);have x1:=(hb3.cell (p:=⟨w.heap.size,1,none⟩) (by simp only;omega)).trans y1)
   have hrow:=Blk.made hown
   rw [Qjq,← Qjc fs l] at hrow
   have HM3:Hid (MapN w3 m (entL fs fs.length)):=HMj.out.keep (hb3.block m hms)
   have HB3:Hid (Below w.heap.size w w3):=hbw.trans (hb3.mono hbw.size)
   clear hown hgrow hi hz0 hz1 hz2 hb3 y1 hbw hb
   generalize hge:wr.heap.size=g at *
   go_loopw [43] (fun i wy=>∃ j:Nat,j≤l.length∧i = .int .i64 j∧Blk 80 wy g (flatD (sideH fs l j))∧Below g w3 wy) (fun i _=>l.length-(intOf i).toNat)
   case atStart=>exact⟨0,YN,rfl,hrow,YD⟩
   case round=>
    obtain⟨j,hj,rfl,hB,hb⟩:=hrel
    rename World=>w5
    by_cases hlt:j<l.length
    ·obtain⟨b,off,rfl,hbb,hcap,hc,-⟩:=HL.out.open hlt
     obtain⟨c0,c1,c2⟩:=hc w5 (HB3.out.trans (hb.mono (by omega))) j hlt
     have hjl:(j:Int)<(l.length:Int):=by omega
     have HS:Hid _:=Qjd fs l hlt
     have hgl:=hB.lt
     have hM5:MapN w5 m (entL fs fs.length):=HM3.out.keep (hb.block m hms)
     have HLN:Hid (j<(sideH fs l j).length):=by rw [Hid,QkA fs l hj];exact hlt
     clear hc
     generalize l[j].1=u at *
     generalize l[j].2.1=v at *
     generalize l[j].2.2=wt at *
     have hbN:Below w5.heap.size w5 (w5.alloc (.cells #[.int .i64 u,.int .i64 v,.int .i64 wt] 50)):=YD.alloc YA _
     have hE:Blk 50 (w5.alloc (.cells #[.int .i64 u,.int .i64 v,.int .i64 wt] 50)) w5.heap.size [.int .i64 u,.int .i64 v,.int .i64 wt]:=heap_alloc_new w5 _
     have e0:=hE.cell (j:=0) rfl
     have e1:=hE.cell (j:=1) rfl
     have hMN:MapN (w5.alloc (.cells #[.int .i64 u,.int .i64 v,.int .i64 wt] 50)) m (entL fs fs.length):=hM5.keep (hbN.block m (by omega))
     have hBN:=hB.go hbN
     have HBN:Hid (Below g w3 (w5.alloc (.cells #[.int .i64 u,.int .i64 v,.int .i64 wt] 50))):=hb.alloc (by omega) _
     have hne:w5.heap.size≠g:=by omega
     clear hbN hE hM5 hB
     go_wp2_with fail
     generalize w5.alloc (.cells #[.int .i64 u,.int .i64 v,.int .i64 wt] 50)=w6 at *
     have l0:=hMN.lookup (u,v)
     have l1:=hMN.lookup (v,u)
     have e2:∀ d,(lkN (entL fs fs.length) d).getD 0=faceOf fs d:=fun _=>rfl
     rw [e2] at l0 l1
     have k0:(Instr.lookup 106 (.map (some m)) (.agg #[.int .i64 u,.int .i64 v]) false).run Tryz.prog w6.drew = .ok (.int .i64 (faceOf fs (u,v))) w6.drew:=(hMN.keep (w':=w6.drew) rfl).lookup (u,v)
     have k1:(Instr.lookup 106 (.map (some m)) (.agg #[.int .i64 v,.int .i64 u]) false).run Tryz.prog w6.drew = .ok (.int .i64 (faceOf fs (v,u))) w6.drew:=(hMN.keep (w':=w6.drew) rfl).lookup (v,u)
     have hBn:=(hBN.set (j*2) (.int .i64 (faceOf fs (u,v)))).set (j*2+1) (.int .i64 (faceOf fs (v,u)))
     rw [QgV _ j _ _ HLN.out,HS.out] at hBn
     have HBn:Hid _:=hBn
     have f0:=hBN.frozen (j*2)
     have f1:=hBN.frozen (j*2+1)
     have z0:=hBN.cell (QbQ (YB HLN.out)).1
     have z1:=hBN.cell (QbQ (YB HLN.out)).2
     clear l0 l1 e2 hBn hBN hMN c0 c1 c2
     generalize faceOf fs (u,v)=x at *
     generalize faceOf fs (v,u)=y at *
     refine Qai (S:=(fun w':World=>w'.cell? ⟨w5.heap.size,0,none⟩=some (.int .i64 u)∧w'.cell? ⟨w5.heap.size,1,none⟩=some (.int .i64 v)∧(Instr.lookup 106 (.map (some m)) (.agg #[.int .i64 u,.int .i64 v]) false).run Tryz.prog w' = .ok (.int .i64 x) w'∧(Instr.lookup 106 (.map (some m)) (.agg #[.int .i64 v,.int .i64 u]) false).run Tryz.prog w' = .ok (.int .i64 y) w')) (by kernel_rfl) ⟨e0,e1,k0,k1⟩ (fun hHeld=>?_)
     refine tL 0 ?_
     try simp only [YS]
     refine tL 1 ?_
     refine tL 2 ?_
     refine tL 3 ?_
     refine tL 4 ?_
     refine tL 5 ?_
     refine tL 6 ?_
     refine tL 7 ?_
     refine tL 8 ?_
     refine tL 9 ?_
     refine tL 10 ?_
     refine tL 11 ?_
     refine tL 12 ?_
     refine tL 13 ?_
     refine tL 14 ?_
     refine tL 15 ?_
     refine tL 16 ?_
     refine tL 17 ?_
     clear e0 e1 k0 k1 hHeld
     have f0':w6.drew.frozen? ⟨g,j*2,none⟩=false:=f0
     have f1':w6.drew.frozen? ⟨g,j*2+1,none⟩=false:=f1
     refine Qac (rs:=[18]) (by kernel_rfl) (by simp) ?_
     refine AllReadyL.last rfl (by kernel_rfl) (fun K hK=>?_)
     go_simp
     refine hK.out _ _ ?_
     clear hK K
     try simp only [Act.put,YS,YT,YU]
     refine Qak (by kernel_rfl) ?_ _
     have hBq:Blk 80 ((w6.setCell ⟨g,j*2,none⟩ (.int .i64 x)).setCell ⟨g,j*2+1,none⟩ (.int .i64 y)).drew g (flatD (sideH fs l (j+1))):=HBn.out
     have hbq:Below g w3 ((w6.setCell ⟨g,j*2,none⟩ (.int .i64 x)).setCell ⟨g,j*2+1,none⟩ (.int .i64 y)).drew:=Qaa ((HBN.out.setCell (p:=⟨g,j*2,none⟩) YA _).setCell (p:=⟨g,j*2+1,none⟩) YA _) 1
     clear HBn HBN f0 f1 f0' f1' z0 z1 HS
     go_wp2
     exact⟨⟨j+1,by omega,by go_num,hBq,hbq⟩,by simp [intOf];omega⟩
    ·obtain rfl:j=l.length:=by omega
     have hjl:¬ (l.length:Int)<(l.length:Int):=by omega
     rw [Qje] at hB
     have HB:Hid _:=hB
     have HBW:Hid (Below w.heap.size w w5):=HB3.out.trans (hb.mono (by omega))
     clear hB hb
     go_wp2
     go_ret
     exact⟨g,rfl,by omega,HB.out,HBW.out⟩
end Go.Proofs.YtalflecmadacaaaGreat
