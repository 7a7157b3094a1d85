import Derived.Test.YtalflecmadacaaaGreatZAB
import Derived.ProofKit
import Derived.Deep.QuietTactic
import Derived.BigQuiet
set_option maxRecDepth 100000
set_option maxHeartbeats 8000000
namespace Go.Proofs.YtalflecmadacaaaGreat
open Go Go.Proofs Go.RowKit
def gath (l:List Int):Nat→List Int × List (List Int)
 | 0=>([],[])
 | i+1=>if (gath l i).1.contains (l.getD i 0) then ((gath l i).1,(gath l i).2.set ((gath l i).1.idxOf (l.getD i 0)) ((gath l i).2.getD ((gath l i).1.idxOf (l.getD i 0)) []++[(i:Int)])) else ((gath l i).1++[l.getD i 0],(gath l i).2++[[(i:Int)]])
theorem Qa5 {l:List Int}{i:Nat}(h:l.getD i 0∈(gath l i).1):gath l (i+1)=((gath l i).1,(gath l i).2.set ((gath l i).1.idxOf (l.getD i 0)) ((gath l i).2.getD ((gath l i).1.idxOf (l.getD i 0)) []++[(i:Int)])):=by
 rw [gath,if_pos (List.contains_iff_mem.2 h)]
theorem Qa6 {l:List Int}{i:Nat}(h:l.getD i 0∉(gath l i).1):gath l (i+1)=((gath l i).1++[l.getD i 0],(gath l i).2++[[(i:Int)]]):=by
 rw [gath,if_neg (fun e=>h (List.contains_iff_mem.1 e))]
theorem Qc8 (l:List Int):∀ i,(gath l i).1.length=(gath l i).2.length
 | 0=>rfl
 | i+1=>by
  have:=Qc8 l i
  by_cases h:l.getD i 0∈(gath l i).1
  ·rw [Qa5 h];simpa using this
  ·rw [Qa6 h];simpa using this
theorem Qd4 {l:List Int}:∀ {i:Nat},i≤l.length→∀ u,u∈(gath l i).1↔u∈l.take i
 | 0,_,u=>by simp [gath]
 | i+1,h,u=>by
  have ih:=Qd4 (l:=l) (i:=i) (by omega)
  have hi:i<l.length:=by omega
  have hg:l.getD i 0=l[i]:=by simp [hi]
  rw [List.take_add_one,YB hi]
  by_cases hm:l.getD i 0∈(gath l i).1
  ·rw [Qa5 hm]
   show u∈(gath l i).1↔_
   rw [ih u,List.mem_append]
   constructor
   ·exact .inl
   ·rintro (h1 | h1)
    ·exact h1
    ·have:u=l[i]:=by simpa using h1
     subst this
     rw [← hg]
     exact (ih _).1 hm
  ·rw [Qa6 hm]
   show u∈(gath l i).1++[l.getD i 0]↔_
   rw [List.mem_append,List.mem_append,ih u,hg]
   simp
theorem Qd5 (l:List Int):∀ i,(gath l i).1.length≤i
 | 0=>by simp [gath]
 | i+1=>by
  have:=Qd5 l i
  by_cases h:l.getD i 0∈(gath l i).1
  ·rw [Qa5 h]
   show (gath l i).1.length≤i+1
   omega
  ·rw [Qa6 h]
   simp
   omega
theorem Qcm (l:List Int):∀ i,∀ xs∈(gath l i).2,xs.length≤i
 | 0,xs,h=>by simp [gath] at h
 | i+1,xs,h=>by
  have ih:=Qcm l i
  by_cases hm:l.getD i 0∈(gath l i).1
  ·rw [Qa5 hm] at h
   rcases List.mem_or_eq_of_mem_set h with h1 | h1
   ·have:=ih xs h1;omega
   ·rw [h1,YI]
    have hk:(gath l i).1.idxOf (l.getD i 0)<(gath l i).2.length:=by rw [← Qc8];exact List.idxOf_lt_length_iff.2 hm
    have h2:(gath l i).2.getD ((gath l i).1.idxOf (l.getD i 0)) []∈(gath l i).2:=by
     have e:(gath l i).2.getD ((gath l i).1.idxOf (l.getD i 0)) []=(gath l i).2[(gath l i).1.idxOf (l.getD i 0)]:=by rw [YC,YB hk];rfl
     rw [e]
     exact YG hk
    have:=ih _ h2
    rw [List.length_singleton]
    omega
  ·rw [Qa6 hm] at h
   rcases YJ h with h1 | h1
   ·have:=ih xs h1;omega
   ·rw [YF h1]
    simp
def szL (l:List Int)(i:Nat):List Int:=(List.range l.length).map fun (v:Nat)=>if (v:Int)∈l.take i then 0 else ((l.count (v:Int):Nat):Int)
theorem QhB (l:List Int)(i:Nat):(szL l i).length=l.length:=by simp [szL]
theorem QiG {l:List Int}{i v:Nat}(h:v<l.length):(szL l i)[v]? = some (if (v:Int)∈l.take i then 0 else ((l.count (v:Int):Nat):Int)):=by simp [szL,h]
theorem Qnk (l:List Int):szL l 0=cntL l.length l l.length:=by
 simp [szL,cntL]
theorem mem_next {l:List Int}{i:Nat}(h:i<l.length)(x:Int):x∈l.take (i+1)↔x∈l.take i∨x=l[i]:=by
 rw [List.take_add_one,YB h,List.mem_append]
 simp
theorem QoZ {l:List Int}{i u:Nat}(h:i<l.length)(hu:l[i]=(u:Int))(hm:(u:Int)∈l.take i):szL l (i+1)=szL l i:=by
 unfold szL
 refine List.map_congr_left fun v _=>?_
 have:(v:Int)∈l.take (i+1)↔(v:Int)∈l.take i:=by
  rw [mem_next h,hu]
  constructor
  ·rintro (h1 | h1)
   ·exact h1
   ·rw [h1];exact hm
  ·exact .inl
 simp only [this]
theorem Qo0 {l:List Int}{i u:Nat}(h:i<l.length)(hu:l[i]=(u:Int))(huN:u<l.length):(szL l i).set u 0=szL l (i+1):=by
 apply List.ext_getElem?
 intro v
 by_cases hv:v<l.length
 ·rw [QiG hv,List.getElem?_set,QhB,QiG hv]
  by_cases h1:u=v
  ·subst h1
   rw [if_pos rfl,if_pos huN,if_pos ((mem_next h _).2 (.inr hu.symm))]
  ·rw [if_neg h1]
   have:(v:Int)∈l.take (i+1)↔(v:Int)∈l.take i:=by
    rw [mem_next h,hu]
    constructor
    ·rintro (h2 | h2)
     ·exact h2
     ·omega
    ·exact .inl
   simp only [this]
 ·rw [YL (by rw [List.length_set,QhB];omega),YL (by rw [QhB];omega)]
theorem Qob {o:List Int}{x y:Int}(h:x∈o):(o++[y]).idxOf x=o.idxOf x:=by rw [List.idxOf_append,if_pos h]
def GrpRow (o:List Int)(grow:List Int):Prop:=∀ v:Nat,(v:Int)∈o→grow[v]? = some ((o.idxOf (v:Int):Nat):Int)
theorem GrpRow.new {o grow:List Int}{u:Nat}(h:GrpRow o grow)(hu:(u:Int)∉o)(hl:u<grow.length):GrpRow (o++[(u:Int)]) (grow.set u ((o.length:Nat):Int)):=by
 intro v hv
 rw [List.getElem?_set]
 by_cases he:u=v
 ·subst he
  rw [if_pos rfl,if_pos hl,List.idxOf_append,if_neg hu]
  simp
 ·rw [if_neg he]
  rcases YJ hv with h1 | h1
  ·rw [Qob h1];exact h v h1
  ·simp at h1;omega
theorem QaB {W:World}{base:Nat}{e:TypeId}{size:Nat}{v:Value}{n:Nat}{xs:List Value}(h:W.ownsRow base e size v n xs):∃ a m c,v = .slice a m c:=by
 rcases h.2 with ⟨hv,_⟩ | ⟨g,cap,cur,hv,_⟩ <;> exact⟨_,_,_,hv⟩
theorem Qag {W:World}{base:Nat}{e:TypeId}{size:Nat}{v:Value}{n:Nat}{xs:List Value}(h:W.ownsRow base e size v n xs):∃ p c,v = .slice p n c:=by
 rcases h.2 with ⟨rfl,rfl⟩ | ⟨g,cap,cur,rfl,_⟩ <;> exact⟨_,_,rfl⟩
theorem QlC (v:Value):v.ownBlock=none∨v.ownBlock≠none:=by
 cases v.ownBlock with
 | none=>exact .inl rfl
 | some k=>exact .inr (by simp)
theorem Qci (W:World)(v:Value)(t:TypeId):∀ (q:Nat) (u:Value),[v][q]? = some u→(W.alloc (.cells #[v] t)).cell? ((⟨W.heap.size,0,none⟩:Addr).add q)=some u:=by
 intro q u hu
 cases q with
 | zero=>simp at hu;subst hu;simp [Addr.add]
 | succ q=>simp at hu
theorem QcU {w:World}{base size n:Nat}{e:TypeId}{v:Value}{xs:List Value}(h:w.ownsRow base e size v n xs)(hn:0<n):∃ g cap,v = .slice (some ⟨g,0,none⟩) n cap:=by
 rcases h.2 with ⟨_,h0⟩ | ⟨g,cap,cur,hv,_⟩
 ·omega
 ·exact⟨g,cap,hv⟩
theorem QeM (l:List Int)(hL:QdR l)(hl:l.length≤4194304)(sv:Value)(w:World)(hA:Ints w.heap.size w sv l):
  Calls Tryz.prog 72 #[sv] w fun r w'=>∃ lv svs h0,r = .returned lv∧Grp h0 lv svs (gath l l.length).2 w'∧Below w.heap.size w w'∧w.heap.size≤h0:=by
 obtain⟨p,c,rfl⟩:=hA.len
 obtain⟨i0,hi,hz0,hz1,hz2⟩:=info_parts infoI
 obtain⟨j0,kj,kz0,kz1,kz2⟩:=info_parts QoK
 have hct:=Qin l hL hl _ w hA
 go_enter Tryz.func72,Tryz.ntmps72
 go_wp2_with fail
 refine hct.mono ?_
 clear hct
 rintro e w2 ⟨gs,rfl,hS2,hgs,hb2⟩
 have hgl2:=hS2.lt
 go_wp2_with (at_make;refine wpList_make_full _ rfl _ _ 27 rfl w2.heap.size 3 i0 (.int .i64 0) 1 Tryz.underlying27 hi hz0 hz1 .i64 .i64 _ _ l.length rfl rfl rfl rfl (by rw [hz2];omega) (by unfold maxLen;omega) YA ?_;intro w3 hown hgrow;have hb3:Below w2.heap.size w2 w3:=YD.grown hgrow YA (fun k e=>by cases e))
 have hG3:=Blk.made hown
 rw [QaD] at hG3
 have hS3:=hS2.go hb3
 rw [← Qnk] at hS3
 have hbw3:=hb2.trans (hb3.mono hb2.size)
 have HW3:Hid (w.heap.size≤w3.heap.size):=hbw3.size
 have hgg3:w2.heap.size<w3.heap.size:=hG3.lt
 have hgg0:w.heap.size≤w2.heap.size:=hb2.size
 clear hown hgrow hb3 hS2 hb2
 generalize w2.heap.size=gg at hG3 hgg3 hgl2 hgg0
 go_loopw [5,16] (fun lv iv wr=>∃ (i:Nat) (svs:List Value) (grow:List Int),i≤l.length∧iv = .int .i64 i∧Grp w3.heap.size lv svs (gath l i).2 wr∧Blk 3 wr gs ((szL l i).map (Value.int .i64))∧Blk 3 wr gg (grow.map (Value.int .i64))∧grow.length=l.length∧Hid (GrpRow (gath l i).1 grow)∧Below w.heap.size w wr∧w3.heap.size≤wr.heap.size) (fun _ iv _=>l.length-(intOf iv).toNat)
 case atStart=>exact⟨0,[],List.replicate l.length 0,YN,rfl,Grp.start _ _,hS3,hG3,by simp,fun v hv=>by simp [gath] at hv,hbw3,YA⟩
 case round=>
  obtain⟨i,svs,grow,hil,rfl,hGr,hS,hG,hgl,hrow,hb,hsz⟩:=hrel
  by_cases hlt:i<l.length
  ·obtain⟨b,off,rfl,hbb,hcap,hc⟩:=hA.open hlt
   have c0:=hc wr hb i hlt
   have hjl:(i:Int)<(l.length:Int):=by omega
   have hok:=hL l[i] (YG hlt)
   obtain⟨u,hu⟩:∃ u:Nat,l[i]=(u:Int):=⟨l[i].toNat,by omega⟩
   have huN:u<l.length:=by omega
   have huN':(u:Int)<(l.length:Int):=by omega
   have hgd:l.getD i 0=(u:Int):=by simp [hlt,hu]
   rw [hu] at c0
   have f0:=hS.frozen u
   have f1:=hG.frozen u
   have hmem:=Qd4 (l:=l) (i:=i) (by omega) (u:Int)
   have hfew:=Qd5 l i
   have hlen:=Qc8 l i
   have hsl:=hGr.len
   by_cases hm:(u:Int)∈l.take i
   ·have hmo:(u:Int)∈(gath l i).1:=hmem.2 hm
    have HG:Hid (gath l (i+1)=((gath l i).1,(gath l i).2.set ((gath l i).1.idxOf (u:Int)) ((gath l i).2.getD ((gath l i).1.idxOf (u:Int)) []++[(i:Int)]))):=by
     rw [Hid,Qa5 (by rw [hgd];exact hmo),hgd]
    have HSZ:Hid (szL l (i+1)=szL l i):=QoZ hlt hu hm
    have t0:wr.cell? ⟨gs,u,none⟩=some (.int .i64 0):=hS.cell (by rw [YH,QiG huN,if_pos hm];rfl)
    have hk2:(gath l i).1.idxOf (u:Int)<(gath l i).2.length:=by rw [← hlen];exact List.idxOf_lt_length_iff.2 hmo
    have t1:wr.cell? ⟨gg,u,none⟩=some (.int .i64 (((gath l i).1.idxOf (u:Int):Nat):Int)):=hG.cell (by rw [YH,hrow.out u hmo];rfl)
    obtain⟨k,hk⟩:∃ k,(gath l i).1.idxOf (u:Int)=k:=⟨_,rfl⟩
    rw [hk] at HG hk2 t1
    obtain⟨xs,hxs⟩:∃ xs,(gath l i).2[k]? = some xs:=⟨_,YB hk2⟩
    have hxl:=Qcm l i xs (YK hxs)
    have HG2:Hid (gath l (i+1)=((gath l i).1,(gath l i).2.set k (xs++[(i:Int)]))):=by
     rw [Hid,HG.out,YC,hxs]
     rfl
    obtain⟨sk,hsk⟩:∃ sk,svs[k]? = some sk:=⟨_,YB (by omega)⟩
    obtain⟨g,cap2,rfl⟩:=QcU hGr.own (by omega)
    have hin:=hGr.inn k sk xs hsk hxs
    obtain⟨ak,mk,ck,rfl⟩:=QaB hin
    have hcell:wr.cell? ⟨g,k,none⟩=some (.slice ak mk ck):=(hGr.own.cellAt k (by omega)).trans hsk
    have hkl:(k:Int)<(svs.length:Int):=by omega
    have hownA:=hin.alloc (.cells #[.int .i64 (i:Int)] 3)
    have hnews:∀ (q:Nat) (u:Value),[Value.int .i64 (i:Int)][q]? = some u→(wr.alloc (.cells #[.int .i64 (i:Int)] 3)).cell? ((⟨wr.heap.size,0,none⟩:Addr).add q)=some u:=by
     intro q u hu
     cases q with
     | zero=>simp at hu;subst hu;simp [Addr.add]
     | succ q=>simp at hu
    have hone:∀ u∈[Value.int .i64 (i:Int)],u.oneCell'=true:=YO
    have hmx:xs.length+1≤maxLen:=by unfold maxLen;omega
    have hby:(xs.length+1)*8≤140737488355328:=by omega
    have hbs:w3.heap.size≤(wr.alloc (.cells #[.int .i64 (i:Int)] 3)).heap.size:=by simp;omega
    have hlow:∀ q,(Value.slice ak mk ck).ownBlock=some q→w3.heap.size≤q:=fun q hq=>(hin.lt q hq).1
    have hog:=(hGr.own.lt g rfl)
    clear hc hok hmem HG hm hmo hk hgd
    go_wp2_with (at_builtin;refine wpList_append_own_at _ rfl _ _ 27 rfl w3.heap.size 3 i0 (.int .i64 0) 1 8 Tryz.underlying27 hi hz0 hz1 hz2 rfl (by decide) (.slice ak mk ck) _ _ rfl hownA ⟨wr.heap.size,0,none⟩ 1 1 [.int .i64 (i:Int)] rfl rfl hnews hone hmx hby hbs ?_)
    intro v6 w6 hown6 hg6 hnil6 hat6
    obtain⟨a6,m6,k6,rfl⟩:=QaB hown6
    have hP:=hGr.push hsk hxs hown6 hg6 (by rw [World.size_alloc];exact hat6)
    have hout:(Value.slice (some ⟨g,0,none⟩) svs.length cap2).ownBlock=none∨(Value.slice (some ⟨g,0,none⟩) svs.length cap2).ownBlock≠(Value.slice ak mk ck).ownBlock:=by
     refine .inr fun e=>?_
     rcases hGr.outer k _ hsk with h1 | h1
     ·rw [h1] at e;cases e
     ·exact h1 e.symm
    have hown7:=Qau (World.ownsRow.alloc hGr.own (.cells #[.int .i64 (i:Int)] 3)) hg6 hout
    have y0:w6.cell? ⟨g,k,none⟩=some (.slice ak mk ck):=(hown7.cellAt k (by omega)).trans hsk
    have y1:=hown7.frozenAt k
    have hb6:Below w.heap.size w w6:=(hb.alloc hb.size _).grown hg6 (by simp;omega) (fun q hq=>by have:=hlow q hq;omega)
    have hlo6:Below w3.heap.size wr w6:=(YD.alloc hsz _).grown hg6 hbs (fun q hq=>hlow q hq)
    have hS6:=hS.below hlo6 (by omega)
    have hG6:=hG.below hlo6 (by omega)
    have hgw:w3.heap.size≤g:=hog.1
    have hsz6:=hlo6.size
    clear hown6 hg6 hnil6 hat6 hownA hnews hone c0 t0 t1 hcell hGr
    go_wp2
    refine⟨⟨i+1,svs.set k (.slice a6 m6 k6),grow,by omega,by go_num,?_,?_,hG6.other (by simp only;omega) _,hgl,?_,hb6.setCell (p:=⟨g,k,none⟩) (by simp only;omega) _,by simp;omega⟩,by simp [intOf];omega⟩
    ·rw [HG2.out,← hsl]
     exact hP
    ·rw [HSZ.out]
     exact hS6.other (by simp only;omega) _
    ·rw [HG2.out]
     exact hrow
   ·have hmo:(u:Int)∉(gath l i).1:=fun h=>hm (hmem.1 h)
    have HG2:Hid (gath l (i+1)=((gath l i).1++[(u:Int)],(gath l i).2++[[(i:Int)]])):=by
     rw [Hid,Qa6 (by rw [hgd];exact hmo),hgd]
    have HSZ:Hid ((szL l i).set u 0=szL l (i+1)):=Qo0 hlt hu huN
    have HRW:Hid (GrpRow ((gath l i).1++[(u:Int)]) (grow.set u (((gath l i).1.length:Nat):Int))):=GrpRow.new hrow.out hmo (by omega)
    have hcp:0<l.count (u:Int):=List.count_pos_iff.2 (by rw [← hu];exact YG hlt)
    have hcl:l.count (u:Int)≤l.length:=List.count_le_length
    obtain⟨q,hq⟩:∃ q,l.count (u:Int)=q:=⟨_,rfl⟩
    have t0:wr.cell? ⟨gs,u,none⟩=some (.int .i64 (q:Int)):=hS.cell (by rw [YH,QiG huN,if_neg hm,hq];rfl)
    rw [hq] at hcp hcl
    obtain⟨gv,hgv⟩:∃ gv,grow[u]? = some gv:=⟨_,YB (by omega)⟩
    have t1:wr.cell? ⟨gg,u,none⟩=some (.int .i64 gv):=hG.cell (by rw [YH,hgv];rfl)
    obtain⟨al,cl,rfl⟩:=Qag hGr.own
    have hK:(gath l i).1.length=svs.length:=by omega
    rw [hK] at HRW
    have hsl2:svs.length≤i:=by omega
    have hq0:(0:Int)<(q:Int):=by omega
    have HSL:Hid (svs.length=(gath l i).2.length):=hsl
    clear hc hok hmem hm hmo hgd hq hgv hsl hlen hfew hrow
    have hGr1:=hGr.low (p:=⟨gg,u,none⟩) (by simp only;omega) (.int .i64 (svs.length:Int))
    have hS1:=hS.other (p:=⟨gg,u,none⟩) (by simp only;omega) (.int .i64 (svs.length:Int))
    have hG1:=hG.set u (.int .i64 (svs.length:Int))
    rw [← List.map_set] at hG1
    have hb1:=hb.setCell (p:=⟨gg,u,none⟩) (by simp only;omega) (.int .i64 (svs.length:Int))
    have tq:(wr.setCell ⟨gg,u,none⟩ (.int .i64 (svs.length:Int))).cell? ⟨gs,u,none⟩=some (.int .i64 (q:Int)):=(World.cell?_setCell_other _ _ _ _ (fun e=>by have h1:=congrArg Addr.block e;simp only at h1;omega)).trans t0
    have hsz1:w3.heap.size≤(wr.setCell ⟨gg,u,none⟩ (.int .i64 (svs.length:Int))).heap.size:=by simpa using hsz
    have hne:gs≠gg:=by omega
    have hsW:(wr.setCell ⟨gg,u,none⟩ (.int .i64 (svs.length:Int))).heap.size=wr.heap.size:=by simp
    have hmx:svs.length+1≤maxLen:=by unfold maxLen;omega
    have hby:(svs.length+1)*24≤140737488355328:=by omega
    have hone:∀ u∈[Value.slice (some ⟨wr.heap.size,0,none⟩) 0 q],u.oneCell'=true:=YO
    go_wp2_with (first | (at_make;refine wpList_make_own _ rfl _ _ 27 rfl w3.heap.size 3 i0 (.int .i64 0) 1 Tryz.underlying27 hi hz0 hz1 .i64 .i64 _ q rfl rfl rfl (by rw [hz2];omega) (by unfold maxLen;omega) hsz1 ?_;intro wA hownA hgA;rw [hsW] at hownA;have hLA:=World.ownsRow.alloc (Qau hGr1.own hgA (QlC _)) (.cells #[.slice (some ⟨wr.heap.size,0,none⟩) 0 q] 27);have hnews:=Qci wA (.slice (some ⟨wr.heap.size,0,none⟩) 0 q) 27;have hbs:w3.heap.size≤(wA.alloc (.cells #[.slice (some ⟨wr.heap.size,0,none⟩) 0 q] 27)).heap.size:=Nat.le_trans (Nat.le_trans hsz1 hgA.size) (by simp)) | (at_builtin;refine wpList_append_own_at _ rfl _ _ 35 rfl w3.heap.size 27 j0 (.slice none 0 0) 1 24 Tryz.underlying35 kj kz0 kz1 kz2 rfl (by decide) (.slice al svs.length cl) _ _ rfl hLA ⟨wA.heap.size,0,none⟩ 1 1 [.slice (some ⟨wr.heap.size,0,none⟩) 0 q] rfl rfl hnews hone hmx hby hbs ?_))
    intro v6 w6 hown6 hg6 hnil6 hat6
    obtain⟨g,cap2,rfl⟩:=QcU hown6 (by omega)
    have hWA:wr.heap.size<wA.heap.size:=(hownA.lt wr.heap.size rfl).2
    have hGr6:=hGr1.new hgA hownA (by simp [Value.ownBlock]) (by rw [hsW];exact hWA) hown6 hg6 (by rw [World.size_alloc];exact hat6)
    have hlowL:∀ k,(Value.slice al svs.length cl).ownBlock=some k→w3.heap.size≤k:=fun k e=>(hGr1.own.lt k e).1
    have hlo6:Below w3.heap.size (wr.setCell ⟨gg,u,none⟩ (.int .i64 (svs.length:Int))) w6:=((YD.grown hgA hsz1 (fun k e=>by cases e)).alloc (Nat.le_trans hsz1 hgA.size) _).grown hg6 hbs hlowL
    have hS6:=hS1.below hlo6 (by omega)
    have hG6:=hG1.below hlo6 (by omega)
    have hb6:Below w.heap.size w w6:=hb1.trans (hlo6.mono (by omega))
    have hsz6:w3.heap.size≤w6.heap.size:=Nat.le_trans hsz1 hlo6.size
    have s0:w6.cell? ⟨gs,u,none⟩=some (.int .i64 (q:Int)):=(hlo6.cell (p:=⟨gs,u,none⟩) (by simp only;omega)).trans tq
    have s1:=hS6.frozen u
    have hS7:=hS6.set u (.int .i64 0)
    rw [← List.map_set,HSZ.out] at hS7
    have hG7:=hG6.other (p:=⟨gs,u,none⟩) (by simp only;omega) (.int .i64 0)
    have hGr7:=hGr6.low (p:=⟨gs,u,none⟩) (by simp only;omega) (.int .i64 0)
    have hb7:=hb6.setCell (p:=⟨gs,u,none⟩) (by simp only;omega) (.int .i64 0)
    have hsz7:w3.heap.size≤(w6.setCell ⟨gs,u,none⟩ (.int .i64 0)).heap.size:=by simpa using hsz6
    have t7:(w6.setCell ⟨gs,u,none⟩ (.int .i64 0)).cell? ⟨gg,u,none⟩=some (.int .i64 (svs.length:Int)):=hG7.cell (by rw [YH,List.getElem?_set_self (by omega)];rfl)
    clear hown6 hg6 hnil6 hat6 hLA hnews hone hbs hgA hownA hGr6 hGr1 hS1 hG1 tq t0 t1 hlo6 hS6 hG6 hlowL hmx hby
    generalize hC:w6.setCell ⟨gs,u,none⟩ (.int .i64 0)=w7 at hS7 hG7 hGr7 hb7 hsz7 t7
    have hsk:(svs++[Value.slice (some ⟨wr.heap.size,0,none⟩) 0 q])[svs.length]? = some (.slice (some ⟨wr.heap.size,0,none⟩) 0 q):=by simp
    have hxs:((gath l i).2++[([]:List Int)])[svs.length]? = some []:=by rw [HSL.out];simp
    have hin:=hGr7.inn svs.length _ _ hsk hxs
    have hll:(svs++[Value.slice (some ⟨wr.heap.size,0,none⟩) 0 q]).length=svs.length+1:=by simp
    have hown7:=hGr7.own
    rw [hll] at hown7
    have hcell:w7.cell? ⟨g,svs.length,none⟩=some (.slice (some ⟨wr.heap.size,0,none⟩) 0 q):=(hown7.cellAt svs.length (by omega)).trans hsk
    have hkl:(svs.length:Int)<(svs.length:Int)+1:=by omega
    have hownI:=hin.alloc (.cells #[.int .i64 (i:Int)] 3)
    have hnews:=Qci w7 (.int .i64 (i:Int)) 3
    have hone:∀ u∈[Value.int .i64 (i:Int)],u.oneCell'=true:=YO
    have hbs:w3.heap.size≤(w7.alloc (.cells #[.int .i64 (i:Int)] 3)).heap.size:=by simp;omega
    have hlow:∀ k,(Value.slice (some ⟨wr.heap.size,0,none⟩) 0 q).ownBlock=some k→w3.heap.size≤k:=fun k hk=>(hin.lt k hk).1
    have hmx:([]:List Int).length+1≤maxLen:=by unfold maxLen;simp
    have hby:(([]:List Int).length+1)*8≤140737488355328:=by simp
    have hog:=hown7.lt g rfl
    go_wp2_with (at_builtin;refine wpList_append_own_at _ rfl _ _ 27 rfl w3.heap.size 3 i0 (.int .i64 0) 1 8 Tryz.underlying27 hi hz0 hz1 hz2 rfl (by decide) (.slice (some ⟨wr.heap.size,0,none⟩) 0 q) _ _ rfl hownI ⟨w7.heap.size,0,none⟩ 1 1 [.int .i64 (i:Int)] rfl rfl hnews hone hmx hby hbs ?_)
    intro v8 w8 hown8 hg8 hnil8 hat8
    obtain⟨a8,m8,k8,rfl⟩:=QaB hown8
    have hGr7':=hGr7
    rw [← hll] at hGr7'
    have hP:=hGr7'.push (y:=(i:Int)) hsk hxs hown8 hg8 (by rw [World.size_alloc];exact hat8)
    have hout:(Value.slice (some ⟨g,0,none⟩) (svs.length+1) cap2).ownBlock=none∨(Value.slice (some ⟨g,0,none⟩) (svs.length+1) cap2).ownBlock≠(Value.slice (some ⟨wr.heap.size,0,none⟩) 0 q).ownBlock:=by
     refine .inr fun e=>?_
     rcases hGr7.outer svs.length _ hsk with h1 | h1
     ·rw [h1] at e;cases e
     ·exact h1 e.symm
    have hown9:=Qau (World.ownsRow.alloc hown7 (.cells #[.int .i64 (i:Int)] 3)) hg8 hout
    have y0:w8.cell? ⟨g,svs.length,none⟩=some (.slice (some ⟨wr.heap.size,0,none⟩) 0 q):=(hown9.cellAt svs.length (by omega)).trans hsk
    have y1:=hown9.frozenAt svs.length
    have hlo8:Below w3.heap.size w7 w8:=(YD.alloc hsz7 _).grown hg8 hbs hlow
    have hb8:Below w.heap.size w w8:=hb7.trans (hlo8.mono (by omega))
    have hS8:=hS7.below hlo8 (by omega)
    have hG8:=hG7.below hlo8 (by omega)
    have hgw:w3.heap.size≤g:=hog.1
    have hsz8:w3.heap.size≤w8.heap.size:=Nat.le_trans hsz7 hlo8.size
    have HPre:Hid (((gath l i).2++[([]:List Int)]).set svs.length ([]++[(i:Int)])=(gath l i).2++[[(i:Int)]]):=by
     rw [Hid,HSL.out,List.set_append_right _ _ YA,Nat.sub_self]
     rfl
    rw [HPre.out,hll] at hP
    clear hown8 hg8 hnil8 hat8 hownI hnews hone c0 t7 hcell hGr7 hGr7' hown9 hown7 hC
    go_wp2
    refine⟨⟨i+1,(svs++[Value.slice (some ⟨wr.heap.size,0,none⟩) 0 q]).set svs.length (.slice a8 m8 k8),grow.set u (svs.length:Int),by omega,by go_num,?_,hS8.other (by simp only;omega) _,hG8.other (by simp only;omega) _,by rw [List.length_set];exact hgl,?_,hb8.setCell (p:=⟨g,svs.length,none⟩) (by simp only;omega) _,by simp;omega⟩,by simp [intOf];omega⟩
    ·rw [HG2.out]
     exact hP
    ·rw [HG2.out]
     exact HRW
  ·obtain rfl:i=l.length:=by omega
   go_wp2
   go_ret
   exact⟨_,svs,_,rfl,hGr,hb,HW3.out⟩
theorem Qg8 (l:List Int)(hL:QdR l)(hl:l.length≤4194304)(sv:Value)(w:World)(hA:Ints w.heap.size w sv l):
  Calls Tryz.prog 72 #[sv] w fun r w'=>∃ lv svs h0,r = .returned lv∧Grp h0 lv svs (gath l l.length).2 w'∧Below w.heap.size w w':=
 (QeM l hL hl sv w hA).mono fun _ _ ⟨a,b,c,h1,h2,h3,_⟩=>⟨a,b,c,h1,h2,h3⟩
def Qai (v:Int):Nat→List Ed→List (Int × Int)
 | _,[]=>[]
 | p,e :: l=>(if e.1=v then [(e.2.1,(p:Int))] else if e.2.1=v then [(e.1,(p:Int))] else [])++Qai v (p+1) l
def Qay (N:Nat)(l:List Ed):List (List (Int × Int)):=(List.range N).map fun (v:Nat)=>Qai (v:Int) 0 l
structure Stp where
 v:Int
 by_:Int
 next:Nat
 low:Int
 opn:Nat
structure WS where
 root:List Int
 from_:List Int
 depth:List Int
 block:List Int
 path:List Stp
 opn:List Int
def at_ (l:List Int)(v:Int):Int:=l.getD v.toNat 0
def lookW (s:WS)(init:List Stp)(top:Stp)(lk:Int × Int):WS:=
 if at_ s.depth lk.1<0 then { s with root:=s.root.set lk.1.toNat (at_ s.root top.v),from_:=s.from_.set lk.1.toNat top.v,depth:=s.depth.set lk.1.toNat (at_ s.depth top.v+1),path:=init++[top]++[⟨lk.1,lk.2,0,at_ s.depth top.v,s.opn.length⟩] }
 else if at_ s.depth lk.1<at_ s.depth top.v then { s with path:=init++[{ top with low:=min top.low (at_ s.depth lk.1) }],opn:=s.opn++[lk.2] }
 else { s with path:=init++[top] }
def Qam (s:WS)(init:List Stp)(last:Stp):WS:=
 match init.getLast? with
 | none=>{ s with path:=[] }
 | some top=>if last.low<at_ s.depth top.v then { s with path:=init.dropLast++[{ top with low:=min top.low last.low }] }
  else { s with path:=init,block:=(s.opn.drop last.opn).foldl (fun b p=>b.set p.toNat last.by_) s.block,opn:=s.opn.take last.opn }
def stepW (lk:List (List (Int × Int)))(s:WS):WS:=
 match s.path.getLast? with
 | none=>s
 | some top=>if top.next=(lk.getD top.v.toNat []).length then Qam s s.path.dropLast top else lookW s s.path.dropLast { top with next:=top.next+1 } ((lk.getD top.v.toNat []).getD top.next (0,0))
def runW (lk:List (List (Int × Int))):Nat→WS→WS
 | 0,s=>s
 | k+1,s=>runW lk k (stepW lk s)
def Qas (lk:List (List (Int × Int)))(fuel:Nat)(s:WS)(r:Nat):WS:=
 if 0≤s.depth.getD r 0 then s else runW lk fuel { s with root:=s.root.set r (r:Int),from_:=s.from_.set r (-1),depth:=s.depth.set r 0,path:=s.path++[⟨(r:Int),-1,0,0,0⟩] }
def Qak (N M:Nat):WS:=⟨List.replicate N 0,List.replicate N 0,List.replicate N (-1),List.replicate M 0,[],[]⟩
def walkW (N:Nat)(l:List Ed):WS:=(List.range N).foldl (Qas (Qay N l) (4*(N+l.length)+4)) (Qak N l.length)
def relax (L:List Int)(e:Ed):List Int:=(L.set e.1.toNat (min (L.getD e.1.toNat 0) (L.getD e.2.1.toNat 0))).set e.2.1.toNat (min (L.getD e.1.toNat 0) (L.getD e.2.1.toNat 0))
theorem QcP (L:List Int)(e:Ed):(relax L e).length=L.length:=by simp [relax]
theorem Qbs:∀ (es:List Ed)(L:List Int) ,(es.foldl relax L).length=L.length
 | [],_=>rfl
 | e :: es,L=>by rw [List.foldl_cons,Qbs es,QcP]
def idL (N:Nat):List Int:=(List.range N).map fun (v:Nat)=>(v:Int)
def labAt (N:Nat)(es:List Ed):Nat→List Int
 | 0=>idL N
 | i+1=>es.foldl relax (labAt N es i)
theorem QaC (N:Nat)(es:List Ed):∀ i,(labAt N es i).length=N
 | 0=>by simp [labAt,idL]
 | i+1=>by rw [labAt,Qbs,QaC N es i]
theorem Qmz {es:List Ed}{j:Nat}(h:j<es.length)(L:List Int):(es.take (j+1)).foldl relax L=relax ((es.take j).foldl relax L) es[j]:=by
 rw [List.take_add_one,YB h,List.foldl_append]
 rfl
def QbY (N j:Nat):List Int:=(List.range N).map fun (v:Nat)=>if v<j then (v:Int) else 0
theorem Qdu (N j:Nat):(QbY N j).length=N:=by simp [QbY]
theorem Qdc {N j v:Nat}(h:v<N):(QbY N j)[v]? = some (if v<j then (v:Int) else 0):=by simp [QbY,h]
theorem QeS (N:Nat):QbY N 0=List.replicate N 0:=by
 apply List.ext_getElem <;> simp [QbY]
theorem QeU (N:Nat):QbY N N=idL N:=by
 unfold QbY idL
 refine List.map_congr_left fun v hv=>?_
 rw [if_pos (List.mem_range.1 hv)]
theorem QeT {N j:Nat}(h:j<N):(QbY N j).set j (j:Int)=QbY N (j+1):=by
 apply List.ext_getElem?
 intro v
 by_cases hv:v<N
 ·rw [Qdc hv,List.getElem?_set,Qdu,Qdc hv]
  by_cases h1:j=v
  ·subst h1
   rw [if_pos rfl,if_pos h,if_pos (by omega)]
  ·rw [if_neg h1]
   by_cases h2:v<j
   ·rw [if_pos h2,if_pos (by omega)]
   ·rw [if_neg h2,if_neg (by omega)]
 ·rw [YL (by rw [List.length_set,Qdu];omega),YL (by rw [Qdu];omega)]
theorem QcQ (N:Nat)(l:List Ed)(hR:RightG (N:Int) l)(sv:Value)(w:World)(hl:Edges w.heap.size w sv l):
  Calls Tryz.prog 49 #[.agg #[.int .i64 (N:Int),sv]] w fun r w'=>∃ g,r = .returned (.slice (some ⟨g,0,none⟩) N N)∧Blk 3 w' g ((labAt N l N).map (Value.int .i64))∧w.heap.size<g∧Below w.heap.size w w':=by
 have hmix:=mixed
 have hg1:Grew w (w.alloc (.cells #[.int .i64 (N:Int),sv] 24)):=(Grew.refl w).alloc _
 have hX1:Blk 24 (w.alloc (.cells #[.int .i64 (N:Int),sv] 24)) w.heap.size [.int .i64 (N:Int),sv]:=heap_alloc_new w _
 obtain⟨p,c,rfl⟩:=hl.len
 obtain⟨i0,hi,hz0,hz1,hz2⟩:=info_parts infoI
 have hn1:=hR.n1
 have hm1:=hR.m1
 have q0:=hX1.cell (j:=0) rfl
 have q1:=hX1.cell (j:=1) rfl
 have hs1:(w.alloc (.cells #[.int .i64 (N:Int),.slice p l.length c] 24)).heap.size=w.heap.size+1:=by simp
 go_enter Tryz.func49,Tryz.ntmps49
 go_wp2_with (at_make;refine wpList_make_full _ rfl _ _ 27 rfl (w.heap.size+1) 3 i0 (.int .i64 0) 1 Tryz.underlying27 hi hz0 hz1 .i64 .i64 _ _ N rfl rfl rfl rfl (by rw [hz2];omega) (by unfold maxLen;omega) (by rw [hs1];exact YA) ?_;intro w3 hown hgrow;have hb3:Below (w.heap.size+1) (w.alloc (.cells #[.int .i64 (N:Int),.slice p l.length c] 24)) w3:=YD.grown hgrow (by rw [hs1];exact YA) (fun k e=>by cases e);have x0:=(hb3.cell (p:=⟨w.heap.size,0,none⟩) (by simp only;omega)).trans q0;have x1:=(hb3.cell (p:=⟨w.heap.size,1,none⟩) (by simp only;omega)).trans q1)
 have hrow:=Blk.made hown
 rw [QaD,← QeS N,hs1] at hrow
 have hbw3:Below w.heap.size w w3:=hg1.below.trans (hb3.mono (by omega))
 clear hown hgrow hi hz0 hz1 hz2 q0 q1 hb3 hX1 hg1 hs1
 obtain⟨g,hg⟩:∃ g,g=w.heap.size+1:=⟨_,rfl⟩
 rw [← hg] at hrow ⊢
 have hgw:w.heap.size<g:=by omega
 clear hg
 go_loopw [4] (fun i wr=>∃ j:Nat,j≤N∧i = .int .i64 j∧Blk 3 wr g ((QbY N j).map (Value.int .i64))∧Below g w3 wr) (fun i _=>N-(intOf i).toNat)
 case atStart=>exact⟨0,YN,rfl,hrow,YD⟩
 case round=>
  obtain⟨j,hj,rfl,hB,hb⟩:=hrel
  have y0:=(hb.cell (p:=⟨w.heap.size,0,none⟩) hgw).trans x0
  by_cases hlt:j<N
  ·have hjl:(j:Int)<(N:Int):=by omega
   have t0:wr.cell? ⟨g,j,none⟩=some (.int .i64 0):=hB.cell (by rw [YH,Qdc hlt,if_neg (Nat.lt_irrefl j)];rfl)
   have f0:=hB.frozen j
   have hBn:=hB.set j (.int .i64 (j:Int))
   rw [← List.map_set,QeT hlt] at hBn
   go_wp2
   exact⟨⟨j+1,by omega,by go_num,hBn,hb.setCell (p:=⟨g,j,none⟩) YA _⟩,by simp [intOf];omega⟩
  ·obtain rfl:j=N:=by omega
   have hN:¬ (j:Int)<(j:Int):=by omega
   rw [QeU] at hB
   have y1:=(hb.cell (p:=⟨w.heap.size,1,none⟩) hgw).trans x1
   have hbw4:Below w.heap.size w wr:=hbw3.trans (hb.mono (by omega))
   have hB0:Blk 3 wr g ((labAt j l 0).map (Value.int .i64)):=hB
   clear hB hb x0 x1 hrow hbw3
   generalize wr=w4 at *
   go_wp2
   go_loopw [5] (fun i wx=>∃ q:Nat,q≤j∧i = .int .i64 q∧Blk 3 wx g ((labAt j l q).map (Value.int .i64))∧Below g w4 wx) (fun i _=>j-(intOf i).toNat)
   case atStart=>exact⟨0,YN,rfl,hB0,YD⟩
   case round=>
    obtain⟨q,hq,rfl,hBq,hbq⟩:=hrel
    have z0:=(hbq.cell (p:=⟨w.heap.size,0,none⟩) hgw).trans y0
    have z1:=(hbq.cell (p:=⟨w.heap.size,1,none⟩) hgw).trans y1
    have hbw5:Below w.heap.size w wr:=hbw4.trans (hbq.mono (by omega))
    generalize wr=w5 at *
    by_cases hlt:q<j
    ·have hjl:(q:Int)<(j:Int):=by omega
     have hlen:=QaC j l q
     have HNX:Hid (labAt j l (q+1)=l.foldl relax (labAt j l q)):=rfl
     generalize labAt j l q=L at *
     go_wp2
     go_loopw [6] (fun i wy=>∃ k:Nat,k≤l.length∧i = .int .i64 k∧Blk 3 wy g (((l.take k).foldl relax L).map (Value.int .i64))∧Below g w5 wy) (fun i _=>l.length-(intOf i).toNat)
     case atStart=>exact⟨0,YN,rfl,hBq,YD⟩
     case round=>
      obtain⟨k,hk,rfl,hBk,hbk⟩:=hrel
      have u1:=(hbk.cell (p:=⟨w.heap.size,1,none⟩) hgw).trans z1
      have hbw6:Below w.heap.size w wr:=hbw5.trans (hbk.mono (by omega))
      by_cases hkl:k<l.length
      ·obtain⟨b,off,rfl,hbb,hcap,hc,-⟩:=hl.open hkl
       obtain⟨c0,c1,c2⟩:=hc wr hbw6 k hkl
       have hkl':(k:Int)<(l.length:Int):=by omega
       have hok:=(hR.each l[k] (YG hkl)).1
       unfold okE at hok
       obtain⟨u,hu⟩:∃ u:Nat,l[k].1=(u:Int):=⟨l[k].1.toNat,by omega⟩
       obtain⟨v,hv⟩:∃ v:Nat,l[k].2.1=(v:Int):=⟨l[k].2.1.toNat,by omega⟩
       have huN:u<j:=by omega
       have hvN:v<j:=by omega
       have hll:((l.take k).foldl relax L).length=j:=by rw [Qbs,hlen]
       have HS:Hid ((l.take (k+1)).foldl relax L=(((l.take k).foldl relax L).set u (min (((l.take k).foldl relax L).getD u 0) (((l.take k).foldl relax L).getD v 0))).set v (min (((l.take k).foldl relax L).getD u 0) (((l.take k).foldl relax L).getD v 0))):=by
        rw [Hid,Qmz hkl,relax,hu,hv,YM,YM]
       rw [hu] at c0
       rw [hv] at c1
       generalize (l.take k).foldl relax L=R at *
       have huN':(u:Int)<(j:Int):=by omega
       have hvN':(v:Int)<(j:Int):=by omega
       have t0:wr.cell? ⟨g,u,none⟩=some (.int .i64 (R.getD u 0)):=hBk.cell (by rw [YH,YB (by omega)];simp [show u<R.length by omega])
       have t1:wr.cell? ⟨g,v,none⟩=some (.int .i64 (R.getD v 0)):=hBk.cell (by rw [YH,YB (by omega)];simp [show v<R.length by omega])
       generalize R.getD u 0=a at *
       generalize R.getD v 0=d at *
       have hbg:b≠g:=by omega
       have hwg:w.heap.size≠g:=by omega
       clear hc hok hu hv
       go_wp2
       go_quiet (fail)
       rw [show (if d<a then d else a)=min a d by split <;> omega]
       have hBq8:Blk 3 (wr.drewN nq) g (R.map (Value.int .i64)):=hBk
       have u8:(wr.drewN nq).cell? ⟨w.heap.size,1,none⟩=some (.slice (some ⟨b,off,none⟩) l.length c):=u1
       have e0:(wr.drewN nq).cell? ⟨b,off+k*3,none⟩=some (.int .i64 (u:Int)):=c0
       have e1:(wr.drewN nq).cell? ⟨b,off+k*3+1,none⟩=some (.int .i64 (v:Int)):=c1
       have s0:(wr.drewN nq).cell? ⟨g,u,none⟩=some (.int .i64 a):=t0
       have s1:(wr.drewN nq).cell? ⟨g,v,none⟩=some (.int .i64 d):=t1
       have hb8:Below g w5 (wr.drewN nq):=Qab hbk nq
       generalize wr.drewN nq=w8 at *
       generalize min a d=m at *
       have f0:=hBq8.frozen u
       have f1:=(hBq8.set u (.int .i64 m)).frozen v
       have r1:∃ x,(w8.setCell ⟨g,u,none⟩ (.int .i64 m)).cell? ⟨g,v,none⟩=some (.int .i64 x):=by
        by_cases huv:u=v
        ·subst huv
         exact⟨m,(hBq8.set u (.int .i64 m)).cell (by rw [← List.map_set,YH,List.getElem?_set_self (by omega)];rfl)⟩
        ·exact⟨d,(World.cell?_setCell_other _ _ _ _ (fun e=>huv (by have:=congrArg Addr.off e;simpa using this))).trans s1⟩
       obtain⟨x,r1⟩:=r1
       have hBn:=(hBq8.set u (.int .i64 m)).set v (.int .i64 m)
       rw [← List.map_set,← List.map_set] at hBn
       clear c0 c1 c2 t0 t1 u1 hBk hbk
       go_wp2
       exact⟨⟨k+1,by omega,by go_num,by rw [HS.out];exact hBn,(hb8.setCell (p:=⟨g,u,none⟩) YA _).setCell (p:=⟨g,v,none⟩) YA _⟩,by simp [intOf];omega⟩
      ·obtain rfl:k=l.length:=by omega
       have hkl':¬ (l.length:Int)<(l.length:Int):=by omega
       rw [List.take_length] at hBk
       go_wp2
       exact⟨⟨q+1,by omega,by go_num,by rw [HNX.out];exact hBk,hbq.trans (hbk.mono YA)⟩,by simp [intOf];omega⟩
    ·obtain rfl:q=j:=by omega
     have hjl:¬ (q:Int)<(q:Int):=by omega
     go_wp2
     go_ret
     exact⟨g,rfl,hBq,hgw,hbw5⟩
def Adj (es:List Ed)(u v:Nat):Prop:=∃ e∈es,(e.1.toNat=u∧e.2.1.toNat=v)∨(e.1.toNat=v∧e.2.1.toNat=u)
theorem Adj.symm {es:List Ed}{u v:Nat}(h:Adj es u v):Adj es v u:=by
 obtain⟨e,he,h⟩:=h
 exact⟨e,he,h.symm⟩
def WayN (es:List Ed):Nat→List Nat→Nat→Prop
 | a,[],c=>a=c
 | a,b :: l,c=>Adj es a b∧WayN es b l c
def Conn (es:List Ed)(a c:Nat):Prop:=∃ l,WayN es a l c
theorem Conn.refl {es:List Ed}(v:Nat):Conn es v v:=⟨[],rfl⟩
theorem Conn.step {es:List Ed}{a b c:Nat}(h:Adj es a b)(h':Conn es b c):Conn es a c:=by
 obtain⟨l,hl⟩:=h'
 exact⟨b :: l,h,hl⟩
theorem Conn.ind {es:List Ed}{motive:(a c:Nat)→Conn es a c→Prop}(refl:∀ v,motive v v (Conn.refl v))(step:∀ {a b c:Nat} (h1:Adj es a b) (h2:Conn es b c),motive b c h2→motive a c (Conn.step h1 h2)):∀ {a c:Nat} (h:Conn es a c),motive a c h:=by
 have key:∀ (l:List Nat) (a c:Nat) (hl:WayN es a l c),motive a c ⟨l,hl⟩:=by
  intro l
  induction l with
  | nil=>
   intro a c hl
   have e:a=c:=hl
   subst e
   exact refl a
  | cons b l ih=>
   intro a c hl
   exact step hl.1 ⟨l,hl.2⟩ (ih b c hl.2)
 intro a c h
 obtain⟨l,hl⟩:=h
 exact key l a c hl
theorem Conn.trans {es:List Ed}{a b c:Nat}(h:Conn es a b)(h':Conn es b c):Conn es a c:=by
 induction h using Conn.ind with
 | refl=>exact h'
 | step h1 _ ih=>exact .step h1 (ih h')
theorem Conn.one {es:List Ed}{a b:Nat}(h:Adj es a b):Conn es a b:=.step h (.refl _)
theorem Conn.symm {es:List Ed}{a b:Nat}(h:Conn es a b):Conn es b a:=by
 induction h using Conn.ind with
 | refl=>exact .refl _
 | step h1 _ ih=>exact ih.trans (.one h1.symm)
def Ends (N:Nat)(es:List Ed):Prop:=∀ e∈es,e.1.toNat<N∧e.2.1.toNat<N
theorem Qeq {L:List Int}{e:Ed}(h1:e.1.toNat<L.length)(h2:e.2.1.toNat<L.length)(v:Nat):(relax L e).getD v 0=if v=e.1.toNat∨v=e.2.1.toNat then min (L.getD e.1.toNat 0) (L.getD e.2.1.toNat 0) else L.getD v 0:=by
 unfold relax
 rw [YC,List.getElem?_set]
 by_cases hv2:e.2.1.toNat=v
 ·subst hv2
  rw [if_pos rfl,if_pos (by simpa using h2),if_pos (.inr rfl)]
  rfl
 ·rw [if_neg hv2,List.getElem?_set]
  by_cases hv1:e.1.toNat=v
  ·subst hv1
   rw [if_pos rfl,if_pos h1,if_pos (.inl rfl)]
   rfl
  ·rw [if_neg hv1,if_neg (by omega),YC]
theorem QiR {L:List Int}{e:Ed}(h1:e.1.toNat<L.length)(h2:e.2.1.toNat<L.length)(v:Nat):(relax L e).getD v 0≤L.getD v 0:=by
 rw [Qeq h1 h2]
 split
 ·rename_i h
  rcases h with rfl | rfl
  ·exact Int.min_le_left _ _
  ·exact Int.min_le_right _ _
 ·exact Int.le_refl _
theorem Qii {N:Nat}:∀ {es:List Ed} {L:List Int},Ends N es→L.length=N→∀ v,(es.foldl relax L).getD v 0≤L.getD v 0
 | [],_,_,_,_=>Int.le_refl _
 | e :: es,L,h,hl,v=>by
  obtain⟨h1,h2⟩:=h e (List.mem_cons_self ..)
  have ih:=Qii (es:=es) (L:=relax L e) (fun x hx=>h x (List.mem_cons_of_mem _ hx)) (by rw [QcP,hl]) v
  rw [List.foldl_cons]
  exact Int.le_trans ih (QiR (by omega) (by omega) v)
theorem Qji {N:Nat}:∀ {es:List Ed} {L:List Int},Ends N es→L.length=N→∀ {u v:Nat},Adj es u v→(es.foldl relax L).getD u 0≤L.getD v 0
 | [],_,_,_,u,v,h=>by obtain⟨e,he,_⟩:=h;simp at he
 | e :: es,L,h,hl,u,v,ha=>by
  obtain⟨h1,h2⟩:=h e (List.mem_cons_self ..)
  have hE:Ends N es:=fun x hx=>h x (List.mem_cons_of_mem _ hx)
  have hl':(relax L e).length=N:=by rw [QcP,hl]
  rw [List.foldl_cons]
  obtain⟨d,hd,hends⟩:=ha
  rcases List.mem_cons.1 hd with rfl | hd
  ·have hle:=Qii hE hl' u
   have hr:=Qeq (L:=L) (e:=d) (by omega) (by omega) u
   rcases hends with ⟨rfl,rfl⟩ | ⟨rfl,rfl⟩
   ·rw [if_pos (.inl rfl)] at hr
    have:=Int.min_le_right (L.getD d.1.toNat 0) (L.getD d.2.1.toNat 0)
    omega
   ·rw [if_pos (.inr rfl)] at hr
    have:=Int.min_le_left (L.getD d.1.toNat 0) (L.getD d.2.1.toNat 0)
    omega
  ·have ih:=Qji (es:=es) (L:=relax L e) hE hl' (u:=u) (v:=v) ⟨d,hd,hends⟩
   have:=QiR (L:=L) (e:=e) (by omega) (by omega) v
   omega
def Sound (N:Nat)(es:List Ed)(L:List Int):Prop:=∀ v,v<N→∃ x:Nat,L.getD v 0=(x:Int)∧x<N∧Conn es v x
theorem QhR {N:Nat}{es:List Ed}{L:List Int}{e:Ed}(hl:L.length=N)(hE:Ends N es)(he:e∈es)(h:Sound N es L):Sound N es (relax L e):=by
 intro v hv
 obtain⟨h1,h2⟩:=hE e he
 rw [Qeq (by omega) (by omega)]
 split
 ·rename_i hv'
  obtain⟨x,hx,hxN,hxc⟩:=h _ h1
  obtain⟨y,hy,hyN,hyc⟩:=h _ h2
  have hadj:Adj es e.1.toNat e.2.1.toNat:=⟨e,he,.inl ⟨rfl,rfl⟩⟩
  rw [hx,hy]
  by_cases hxy:(x:Int)≤(y:Int)
  ·rw [Int.min_eq_left hxy]
   refine⟨x,rfl,hxN,?_⟩
   rcases hv' with rfl | rfl
   ·exact hxc
   ·exact .step hadj.symm hxc
  ·rw [Int.min_eq_right (by omega)]
   refine⟨y,rfl,hyN,?_⟩
   rcases hv' with rfl | rfl
   ·exact .step hadj hyc
   ·exact hyc
 ·exact h v hv
theorem Qfx {N:Nat}{es:List Ed}(hE:Ends N es):∀ {ds:List Ed} {L:List Int},(∀ e∈ds,e∈es)→L.length=N→Sound N es L→Sound N es (ds.foldl relax L)
 | [],_,_,_,h=>h
 | d :: ds,L,hsub,hl,h=>by
  rw [List.foldl_cons]
  exact Qfx hE (fun e he=>hsub e (List.mem_cons_of_mem _ he)) (by rw [QcP,hl]) (QhR hl hE (hsub d (List.mem_cons_self ..)) h)
theorem QeH {N:Nat}{es:List Ed}(hE:Ends N es):∀ i,Sound N es (labAt N es i)
 | 0=>fun v hv=>⟨v,by simp [labAt,idL,hv],hv,.refl _⟩
 | i+1=>Qfx hE (fun _ h=>h) (QaC N es i) (QeH hE i)
def ball (es:List Ed):Nat→Nat→Nat→Bool
 | 0,v,u=>v==u
 | i+1,v,u=>ball es i v u || es.any fun e=>(e.1.toNat==v && ball es i e.2.1.toNat u) || (e.2.1.toNat==v && ball es i e.1.toNat u)
theorem ball_next {es:List Ed}{i v u:Nat}:ball es (i+1) v u=true↔ball es i v u=true∨∃ w,Adj es v w∧ball es i w u=true:=by
 rw [ball,Bool.or_eq_true,List.any_eq_true]
 refine or_congr_right ⟨?_,?_⟩
 ·rintro⟨e,he,h⟩
  simp only [Bool.or_eq_true,Bool.and_eq_true,beq_iff_eq] at h
  rcases h with ⟨h1,h2⟩ | ⟨h1,h2⟩
  ·exact⟨_,⟨e,he,.inl ⟨h1,rfl⟩⟩,h2⟩
  ·exact⟨_,⟨e,he,.inr ⟨rfl,h1⟩⟩,h2⟩
 ·rintro⟨w,⟨e,he,h⟩,hb⟩
  refine⟨e,he,?_⟩
  simp only [Bool.or_eq_true,Bool.and_eq_true,beq_iff_eq]
  rcases h with ⟨h1,h2⟩ | ⟨h1,h2⟩
  ·exact .inl ⟨h1,by rw [h2];exact hb⟩
  ·exact .inr ⟨h2,by rw [h1];exact hb⟩
theorem Qhr {es:List Ed}{i v u:Nat}(h:ball es i v u=true):ball es (i+1) v u=true:=ball_next.2 (.inl h)
theorem Qdo {N:Nat}{es:List Ed}(hE:Ends N es):∀ (i:Nat) {v u:Nat},v<N→ball es i v u=true→(labAt N es i).getD v 0≤(u:Int)
 | 0,v,u,hv,h=>by
  have:v=u:=by simpa [ball] using h
  subst this
  simp [labAt,idL,hv]
 | i+1,v,u,hv,h=>by
  show (es.foldl relax (labAt N es i)).getD v 0≤_
  rcases ball_next.1 h with h | ⟨w,ha,h⟩
  ·exact Int.le_trans (Qii hE (QaC N es i) v) (Qdo hE i hv h)
  ·have hw:w<N:=by
    obtain⟨e,he,h1⟩:=ha
    have:=hE e he
    rcases h1 with ⟨_,rfl⟩ | ⟨rfl,_⟩
    ·exact this.2
    ·exact this.1
   exact Int.le_trans (Qji hE (QaC N es i) ha) (Qdo hE i hw h)
theorem Qe0 {α:Type}{p q:α→Bool}:∀ {l:List α},(∀ x∈l,p x=true→q x=true)→(∃ x∈l,q x=true∧p x=false)→l.countP p+1≤l.countP q
 | [],_,h=>by obtain⟨x,hx,_⟩:=h;simp at hx
 | a :: l,hm,h=>by
  obtain⟨x,hx,hq,hp⟩:=h
  have mono:l.countP p≤l.countP q:=List.countP_mono_left fun y hy=>hm y (List.mem_cons_of_mem _ hy)
  rw [List.countP_cons,List.countP_cons]
  rcases List.mem_cons.1 hx with rfl | hx
  ·rw [hq,hp]
   simp
   exact mono
  ·have ih:=Qe0 (l:=l) (fun y hy=>hm y (List.mem_cons_of_mem _ hy)) ⟨x,hx,hq,hp⟩
   have ha:=hm a (List.mem_cons_self ..)
   cases hpa:p a with
   | false=>cases q a <;> simp <;> omega
   | true=>rw [ha hpa];simp;omega
theorem QaY {N:Nat}{es:List Ed}(hE:Ends N es){v w:Nat}(h:Adj es v w):v<N∧w<N:=by
 obtain⟨e,he,h1⟩:=h
 have:=hE e he
 rcases h1 with ⟨rfl,rfl⟩ | ⟨rfl,rfl⟩
 ·exact this
 ·exact⟨this.2,this.1⟩
def Still (N:Nat)(es:List Ed)(u i:Nat):Prop:=∀ v,v<N→ball es (i+1) v u=true→ball es i v u=true
theorem QfK {N:Nat}{es:List Ed}(hE:Ends N es){u i:Nat}(h:Still N es u i):∀ k,∀ v,v<N→ball es (i+k) v u=true→ball es i v u=true
 | 0,_,_,hb=>hb
 | k+1,v,hv,hb=>by
  have hb':ball es (i+k+1) v u=true:=hb
  rcases ball_next.1 hb' with h1 | ⟨w,ha,h1⟩
  ·exact QfK hE h k v hv h1
  ·exact h v hv (ball_next.2 (.inr ⟨w,ha,QfK hE h k w (QaY hE ha).2 h1⟩))
theorem Qiw {es:List Ed}{i v u:Nat}(h:ball es i v u=true):∀ k,ball es (i+k) v u=true
 | 0=>h
 | k+1=>Qhr (Qiw h k)
def cntB (N:Nat)(es:List Ed)(u i:Nat):Nat:=(List.range N).countP fun v=>ball es i v u
theorem Qfc {N:Nat}{es:List Ed}{u:Nat}(hu:u<N):∀ i,(∃ j,j<i∧Still N es u j)∨i+1≤cntB N es u i
 | 0=>by
  refine .inr ?_
  have:0<cntB N es u 0:=List.countP_pos_iff.2 ⟨u,List.mem_range.2 hu,by simp [ball]⟩
  omega
 | i+1=>by
  rcases Qfc (N:=N) (es:=es) hu i with ⟨j,hj,h⟩ | h
  ·exact .inl ⟨j,by omega,h⟩
  ·by_cases hs:Still N es u i
   ·exact .inl ⟨i,by omega,hs⟩
   ·refine .inr ?_
    have hex:∃ v,v<N∧ball es (i+1) v u=true∧ball es i v u=false:=by
     refine Classical.byContradiction fun hno=>hs fun v hv hb=>?_
     cases hc:ball es i v u with
     | true=>rfl
     | false=>exact absurd ⟨v,hv,hb,hc⟩ hno
    obtain⟨v,hv,h1,h2⟩:=hex
    have:=Qe0 (l:=List.range N) (p:=fun v=>ball es i v u) (q:=fun v=>ball es (i+1) v u) (fun x _ hx=>Qhr hx) ⟨v,List.mem_range.2 hv,h1,h2⟩
    have h3:cntB N es u i+1≤cntB N es u (i+1):=this
    omega
theorem QmV {es:List Ed}{v u:Nat}(h:Conn es v u):∃ k,ball es k v u=true:=by
 induction h using Conn.ind with
 | refl v=>exact⟨0,by simp [ball]⟩
 | step ha _ ih=>
  obtain⟨k,hk⟩:=ih
  exact⟨k+1,ball_next.2 (.inr ⟨_,ha,hk⟩)⟩
theorem Qhl {N:Nat}{es:List Ed}(hE:Ends N es){v u:Nat}(hv:v<N)(hu:u<N)(h:Conn es v u):ball es N v u=true:=by
 obtain⟨k,hk⟩:=QmV h
 rcases Qfc (N:=N) (es:=es) hu N with ⟨j,hj,hs⟩ | hc
 ·have h1:ball es j v u=true:=by
   by_cases hkj:k≤j
   ·have:=Qiw hk (j-k)
    rwa [show k+(j-k)=j by omega] at this
   ·exact QfK hE hs (k-j) v hv (by rw [show j+(k-j)=k by omega];exact hk)
  have:=Qiw h1 (N-j)
  rwa [show j+(N-j)=N by omega] at this
 ·have:cntB N es u N≤N:=by
   have:=List.countP_le_length (p:=fun v=>ball es N v u) (l:=List.range N)
   rw [List.length_range] at this
   exact this
  omega
theorem QbE {N:Nat}{es:List Ed}(hE:Ends N es){v:Nat}(hv:v<N):∃ x:Nat,(labAt N es N).getD v 0=(x:Int)∧x<N∧Conn es v x∧∀ u,u<N→Conn es v u→x≤u:=by
 obtain⟨x,hx,hxN,hc⟩:=QeH hE N v hv
 refine⟨x,hx,hxN,hc,fun u hu h=>?_⟩
 have:=Qdo hE N hv (Qhl hE hv hu h)
 rw [hx] at this
 omega
theorem Qd0 {N:Nat}{es:List Ed}(hE:Ends N es){v u:Nat}(hv:v<N)(hu:u<N):(labAt N es N).getD v 0=(labAt N es N).getD u 0↔Conn es v u:=by
 obtain⟨x,hx,hxN,hxc,hxl⟩:=QbE hE hv
 obtain⟨y,hy,hyN,hyc,hyl⟩:=QbE hE hu
 rw [hx,hy]
 constructor
 ·intro e
  have:x=y:=by omega
  subst this
  exact hxc.trans hyc.symm
 ·intro h
  have h1:=hxl y hyN (h.trans hyc)
  have h2:=hyl x hxN (h.symm.trans hxc)
  omega
theorem Qaw {N:Nat}{es:List Ed}(h:RightG (N:Int) es):Ends N es:=fun e he=>by
 have:=(h.each e he).1
 unfold okE at this
 omega
end Go.Proofs.YtalflecmadacaaaGreat
