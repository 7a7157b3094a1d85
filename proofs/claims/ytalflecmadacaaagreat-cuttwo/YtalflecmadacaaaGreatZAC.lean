import Derived.Test.YtalflecmadacaaaGreatZAB
import Derived.Deep.QuietTactic
import Derived.BigQuiet
set_option maxRecDepth 100000
set_option maxHeartbeats 8000000
namespace Go.Proofs.YtalflecmadacaaaGreat
open Go Go.Proofs Go.RowKit
def gath (l:List Int):Nat→List Int × List (List Int)
 | 0=>([],[])
 | i+1=>if (gath l i).1.contains (l.getD i 0) then ((gath l i).1,(gath l i).2.set ((gath l i).1.idxOf (l.getD i 0)) ((gath l i).2.getD ((gath l i).1.idxOf (l.getD i 0)) []++[(i:Int)])) else ((gath l i).1++[l.getD i 0],(gath l i).2++[[(i:Int)]])
theorem Qcg {l:List Int}{i:Nat}(h:l.getD i 0∈(gath l i).1):gath l (i+1)=((gath l i).1,(gath l i).2.set ((gath l i).1.idxOf (l.getD i 0)) ((gath l i).2.getD ((gath l i).1.idxOf (l.getD i 0)) []++[(i:Int)])):=by
 rw [gath,if_pos (List.contains_iff_mem.2 h)]
theorem Qch {l:List Int}{i:Nat}(h:l.getD i 0∉(gath l i).1):gath l (i+1)=((gath l i).1++[l.getD i 0],(gath l i).2++[[(i:Int)]]):=by
 rw [gath,if_neg (fun e=>h (List.contains_iff_mem.1 e))]
theorem QfQ (l:List Int):∀ i,(gath l i).1.length=(gath l i).2.length
 | 0=>rfl
 | i+1=>by
  have:=QfQ l i
  by_cases h:l.getD i 0∈(gath l i).1
  ·rw [Qcg h];simpa using this
  ·rw [Qch h];simpa using this
theorem QiK {l:List Int}:∀ {i:Nat},i≤l.length→∀ u,u∈(gath l i).1↔u∈l.take i
 | 0,_,u=>by simp [gath]
 | i+1,h,u=>by
  have ih:=QiK (l:=l) (i:=i) (by omega)
  have hi:i<l.length:=by omega
  have hg:l.getD i 0=l[i]:=by simp [hi]
  rw [List.take_add_one,YB hi]
  by_cases hm:l.getD i 0∈(gath l i).1
  ·rw [Qcg hm]
   show u∈(gath l i).1↔_
   rw [ih u,List.mem_append]
   constructor
   ·exact .inl
   ·rintro (h1 | h1)
    ·exact h1
    ·have:u=l[i]:=by simpa using h1
     subst this
     rw [← hg]
     exact (ih _).1 hm
  ·rw [Qch hm]
   show u∈(gath l i).1++[l.getD i 0]↔_
   rw [List.mem_append,List.mem_append,ih u,hg]
   simp
theorem QiL (l:List Int):∀ i,(gath l i).1.length≤i
 | 0=>by simp [gath]
 | i+1=>by
  have:=QiL l i
  by_cases h:l.getD i 0∈(gath l i).1
  ·rw [Qcg h]
   show (gath l i).1.length≤i+1
   omega
  ·rw [Qch h]
   simp
   omega
theorem Qfg (l:List Int):∀ i,∀ xs∈(gath l i).2,xs.length≤i
 | 0,xs,h=>by simp [gath] at h
 | i+1,xs,h=>by
  have ih:=Qfg l i
  by_cases hm:l.getD i 0∈(gath l i).1
  ·rw [Qcg hm] at h
   rcases List.mem_or_eq_of_mem_set h with h1 | h1
   ·have:=ih xs h1;omega
   ·rw [h1,YI]
    have hk:(gath l i).1.idxOf (l.getD i 0)<(gath l i).2.length:=by rw [← QfQ];exact List.idxOf_lt_length_iff.2 hm
    have h2:(gath l i).2.getD ((gath l i).1.idxOf (l.getD i 0)) []∈(gath l i).2:=by
     have e:(gath l i).2.getD ((gath l i).1.idxOf (l.getD i 0)) []=(gath l i).2[(gath l i).1.idxOf (l.getD i 0)]:=by rw [YC,YB hk];rfl
     rw [e]
     exact YG hk
    have:=ih _ h2
    rw [List.length_singleton]
    omega
  ·rw [Qch hm] at h
   rcases YJ h with h1 | h1
   ·have:=ih xs h1;omega
   ·rw [YF h1]
    simp
def szL (l:List Int)(i:Nat):List Int:=(List.range l.length).map fun (v:Nat)=>if (v:Int)∈l.take i then 0 else ((l.count (v:Int):Nat):Int)
theorem Qhh (l:List Int)(i:Nat):(szL l i).length=l.length:=by simp [szL]
theorem Qil {l:List Int}{i v:Nat}(h:v<l.length):(szL l i)[v]? = some (if (v:Int)∈l.take i then 0 else ((l.count (v:Int):Nat):Int)):=by simp [szL,h]
theorem Qmx (l:List Int):szL l 0=cntL l.length l l.length:=by
 simp [szL,cntL]
theorem mem_next {l:List Int}{i:Nat}(h:i<l.length)(x:Int):x∈l.take (i+1)↔x∈l.take i∨x=l[i]:=by
 rw [List.take_add_one,YB h,List.mem_append]
 simp
theorem Qot {l:List Int}{i u:Nat}(h:i<l.length)(hu:l[i]=(u:Int))(hm:(u:Int)∈l.take i):szL l (i+1)=szL l i:=by
 unfold szL
 refine List.map_congr_left fun v _=>?_
 have:(v:Int)∈l.take (i+1)↔(v:Int)∈l.take i:=by
  rw [mem_next h,hu]
  constructor
  ·rintro (h1 | h1)
   ·exact h1
   ·rw [h1];exact hm
  ·exact .inl
 simp only [this]
theorem Qou {l:List Int}{i u:Nat}(h:i<l.length)(hu:l[i]=(u:Int))(huN:u<l.length):(szL l i).set u 0=szL l (i+1):=by
 apply List.ext_getElem?
 intro v
 by_cases hv:v<l.length
 ·rw [Qil hv,List.getElem?_set,Qhh,Qil hv]
  by_cases h1:u=v
  ·subst h1
   rw [if_pos rfl,if_pos huN,if_pos ((mem_next h _).2 (.inr hu.symm))]
  ·rw [if_neg h1]
   have:(v:Int)∈l.take (i+1)↔(v:Int)∈l.take i:=by
    rw [mem_next h,hu]
    constructor
    ·rintro (h2 | h2)
     ·exact h2
     ·omega
    ·exact .inl
   simp only [this]
 ·rw [YL (by rw [List.length_set,Qhh];omega),YL (by rw [Qhh];omega)]
theorem Qnq {o:List Int}{x y:Int}(h:x∈o):(o++[y]).idxOf x=o.idxOf x:=by rw [List.idxOf_append,if_pos h]
def GrpRow (o:List Int)(grow:List Int):Prop:=∀ v:Nat,(v:Int)∈o→grow[v]? = some ((o.idxOf (v:Int):Nat):Int)
theorem GrpRow.new {o grow:List Int}{u:Nat}(h:GrpRow o grow)(hu:(u:Int)∉o)(hl:u<grow.length):GrpRow (o++[(u:Int)]) (grow.set u ((o.length:Nat):Int)):=by
 intro v hv
 rw [List.getElem?_set]
 by_cases he:u=v
 ·subst he
  rw [if_pos rfl,if_pos hl,List.idxOf_append,if_neg hu]
  simp
 ·rw [if_neg he]
  rcases YJ hv with h1 | h1
  ·rw [Qnq h1];exact h v h1
  ·simp at h1;omega
theorem Qar {W:World}{base:Nat}{e:TypeId}{size:Nat}{v:Value}{n:Nat}{xs:List Value}(h:W.ownsRow base e size v n xs):∃ a m c,v = .slice a m c:=by
 rcases h.2 with ⟨hv,_⟩ | ⟨g,cap,cur,hv,_⟩ <;> exact⟨_,_,_,hv⟩
theorem Qaf {W:World}{base:Nat}{e:TypeId}{size:Nat}{v:Value}{n:Nat}{xs:List Value}(h:W.ownsRow base e size v n xs):∃ p c,v = .slice p n c:=by
 rcases h.2 with ⟨rfl,rfl⟩ | ⟨g,cap,cur,rfl,_⟩ <;> exact⟨_,_,rfl⟩
theorem Qk6 (v:Value):v.ownBlock=none∨v.ownBlock≠none:=by
 cases v.ownBlock with
 | none=>exact .inl rfl
 | some k=>exact .inr (by simp)
theorem Qbc (W:World)(v:Value)(t:TypeId):∀ (q:Nat) (u:Value),[v][q]? = some u→(W.alloc (.cells #[v] t)).cell? ((⟨W.heap.size,0,none⟩:Addr).add q)=some u:=by
 intro q u hu
 cases q with
 | zero=>simp at hu;subst hu;simp [Addr.add]
 | succ q=>simp at hu
theorem QcQ {w:World}{base size n:Nat}{e:TypeId}{v:Value}{xs:List Value}(h:w.ownsRow base e size v n xs)(hn:0<n):∃ g cap,v = .slice (some ⟨g,0,none⟩) n cap:=by
 rcases h.2 with ⟨_,h0⟩ | ⟨g,cap,cur,hv,_⟩
 ·omega
 ·exact⟨g,cap,hv⟩
theorem QhZ (l:List Int)(hL:Qg8 l)(hl:l.length≤4194304)(sv:Value)(w:World)(hA:Ints w.heap.size w sv l):
  Calls Tryz.prog 72 #[sv] w fun r w'=>∃ lv svs h0,r = .returned lv∧Grp h0 lv svs (gath l l.length).2 w'∧Below w.heap.size w w'∧w.heap.size≤h0:=by
 obtain⟨p,c,rfl⟩:=hA.len
 obtain⟨i0,hi,hz0,hz1,hz2⟩:=info_parts infoI
 obtain⟨j0,kj,kz0,kz1,kz2⟩:=info_parts Qob
 have hct:=Qh6 l hL hl _ w hA
 go_enter Tryz.func72,Tryz.ntmps72
 go_wp2_with fail
 refine hct.mono ?_
 clear hct
 rintro e w2 ⟨gs,rfl,hS2,hgs,hb2⟩
 have hgl2:=hS2.lt
 go_wp2_with (at_make;refine wpList_make_full _ rfl _ _ 27 rfl w2.heap.size 3 i0 (.int .i64 0) 1 Tryz.underlying27 hi hz0 hz1 .i64 .i64 _ _ l.length rfl rfl rfl rfl (by rw [hz2];omega) (by unfold maxLen;omega) YA ?_;intro w3 hown hgrow;have hb3:Below w2.heap.size w2 w3:=YD.grown hgrow YA (fun k e=>by cases e))
 have hG3:=Blk.made hown
 rw [QaK] at hG3
 have hS3:=hS2.go hb3
 rw [← Qmx] at hS3
 have hbw3:=hb2.trans (hb3.mono hb2.size)
 have HW3:Hid (w.heap.size≤w3.heap.size):=hbw3.size
 have hgg3:w2.heap.size<w3.heap.size:=hG3.lt
 have hgg0:w.heap.size≤w2.heap.size:=hb2.size
 clear hown hgrow hb3 hS2 hb2
 generalize w2.heap.size=gg at hG3 hgg3 hgl2 hgg0
 go_loopw [5,16] (fun lv iv wr=>∃ (i:Nat) (svs:List Value) (grow:List Int),i≤l.length∧iv = .int .i64 i∧Grp w3.heap.size lv svs (gath l i).2 wr∧Blk 3 wr gs ((szL l i).map (Value.int .i64))∧Blk 3 wr gg (grow.map (Value.int .i64))∧grow.length=l.length∧Hid (GrpRow (gath l i).1 grow)∧Below w.heap.size w wr∧w3.heap.size≤wr.heap.size) (fun _ iv _=>l.length-(intOf iv).toNat)
 case atStart=>exact⟨0,[],List.replicate l.length 0,YN,rfl,Grp.start _ _,hS3,hG3,by simp,fun v hv=>by simp [gath] at hv,hbw3,YA⟩
 case round=>
  obtain⟨i,svs,grow,hil,rfl,hGr,hS,hG,hgl,hrow,hb,hsz⟩:=hrel
  by_cases hlt:i<l.length
  ·obtain⟨b,off,rfl,hbb,hcap,hc⟩:=hA.open hlt
   have c0:=hc wr hb i hlt
   have hjl:(i:Int)<(l.length:Int):=by omega
   have hok:=hL l[i] (YG hlt)
   obtain⟨u,hu⟩:∃ u:Nat,l[i]=(u:Int):=⟨l[i].toNat,by omega⟩
   have huN:u<l.length:=by omega
   have huN':(u:Int)<(l.length:Int):=by omega
   have hgd:l.getD i 0=(u:Int):=by simp [hlt,hu]
   rw [hu] at c0
   have f0:=hS.frozen u
   have f1:=hG.frozen u
   have hmem:=QiK (l:=l) (i:=i) (by omega) (u:Int)
   have hfew:=QiL l i
   have hlen:=QfQ l i
   have hsl:=hGr.len
   by_cases hm:(u:Int)∈l.take i
   ·have hmo:(u:Int)∈(gath l i).1:=hmem.2 hm
    have HG:Hid (gath l (i+1)=((gath l i).1,(gath l i).2.set ((gath l i).1.idxOf (u:Int)) ((gath l i).2.getD ((gath l i).1.idxOf (u:Int)) []++[(i:Int)]))):=by
     rw [Hid,Qcg (by rw [hgd];exact hmo),hgd]
    have HSZ:Hid (szL l (i+1)=szL l i):=Qot hlt hu hm
    have t0:wr.cell? ⟨gs,u,none⟩=some (.int .i64 0):=hS.cell (by rw [YH,Qil huN,if_pos hm];rfl)
    have hk2:(gath l i).1.idxOf (u:Int)<(gath l i).2.length:=by rw [← hlen];exact List.idxOf_lt_length_iff.2 hmo
    have t1:wr.cell? ⟨gg,u,none⟩=some (.int .i64 (((gath l i).1.idxOf (u:Int):Nat):Int)):=hG.cell (by rw [YH,hrow.out u hmo];rfl)
    obtain⟨k,hk⟩:∃ k,(gath l i).1.idxOf (u:Int)=k:=⟨_,rfl⟩
    rw [hk] at HG hk2 t1
    obtain⟨xs,hxs⟩:∃ xs,(gath l i).2[k]? = some xs:=⟨_,YB hk2⟩
    have hxl:=Qfg l i xs (YK hxs)
    have HG2:Hid (gath l (i+1)=((gath l i).1,(gath l i).2.set k (xs++[(i:Int)]))):=by
     rw [Hid,HG.out,YC,hxs]
     rfl
    obtain⟨sk,hsk⟩:∃ sk,svs[k]? = some sk:=⟨_,YB (by omega)⟩
    obtain⟨g,cap2,rfl⟩:=QcQ hGr.own (by omega)
    have hin:=hGr.inn k sk xs hsk hxs
    obtain⟨ak,mk,ck,rfl⟩:=Qar hin
    have hcell:wr.cell? ⟨g,k,none⟩=some (.slice ak mk ck):=(hGr.own.cellAt k (by omega)).trans hsk
    have hkl:(k:Int)<(svs.length:Int):=by omega
    have hownA:=hin.alloc (.cells #[.int .i64 (i:Int)] 3)
    have hnews:∀ (q:Nat) (u:Value),[Value.int .i64 (i:Int)][q]? = some u→(wr.alloc (.cells #[.int .i64 (i:Int)] 3)).cell? ((⟨wr.heap.size,0,none⟩:Addr).add q)=some u:=by
     intro q u hu
     cases q with
     | zero=>simp at hu;subst hu;simp [Addr.add]
     | succ q=>simp at hu
    have hone:∀ u∈[Value.int .i64 (i:Int)],u.oneCell'=true:=YO
    have hmx:xs.length+1≤maxLen:=by unfold maxLen;omega
    have hby:(xs.length+1)*8≤140737488355328:=by omega
    have hbs:w3.heap.size≤(wr.alloc (.cells #[.int .i64 (i:Int)] 3)).heap.size:=by simp;omega
    have hlow:∀ q,(Value.slice ak mk ck).ownBlock=some q→w3.heap.size≤q:=fun q hq=>(hin.lt q hq).1
    have hog:=(hGr.own.lt g rfl)
    clear hc hok hmem HG hm hmo hk hgd
    go_wp2_with (at_builtin;refine wpList_append_own_at _ rfl _ _ 27 rfl w3.heap.size 3 i0 (.int .i64 0) 1 8 Tryz.underlying27 hi hz0 hz1 hz2 rfl (by decide) (.slice ak mk ck) _ _ rfl hownA ⟨wr.heap.size,0,none⟩ 1 1 [.int .i64 (i:Int)] rfl rfl hnews hone hmx hby hbs ?_)
    intro v6 w6 hown6 hg6 hnil6 hat6
    obtain⟨a6,m6,k6,rfl⟩:=Qar hown6
    have hP:=hGr.push hsk hxs hown6 hg6 (by rw [World.size_alloc];exact hat6)
    have hout:(Value.slice (some ⟨g,0,none⟩) svs.length cap2).ownBlock=none∨(Value.slice (some ⟨g,0,none⟩) svs.length cap2).ownBlock≠(Value.slice ak mk ck).ownBlock:=by
     refine .inr fun e=>?_
     rcases hGr.outer k _ hsk with h1 | h1
     ·rw [h1] at e;cases e
     ·exact h1 e.symm
    have hown7:=Qal (World.ownsRow.alloc hGr.own (.cells #[.int .i64 (i:Int)] 3)) hg6 hout
    have y0:w6.cell? ⟨g,k,none⟩=some (.slice ak mk ck):=(hown7.cellAt k (by omega)).trans hsk
    have y1:=hown7.frozenAt k
    have hb6:Below w.heap.size w w6:=(hb.alloc hb.size _).grown hg6 (by simp;omega) (fun q hq=>by have:=hlow q hq;omega)
    have hlo6:Below w3.heap.size wr w6:=(YD.alloc hsz _).grown hg6 hbs (fun q hq=>hlow q hq)
    have hS6:=hS.below hlo6 (by omega)
    have hG6:=hG.below hlo6 (by omega)
    have hgw:w3.heap.size≤g:=hog.1
    have hsz6:=hlo6.size
    clear hown6 hg6 hnil6 hat6 hownA hnews hone c0 t0 t1 hcell hGr
    go_wp2
    refine⟨⟨i+1,svs.set k (.slice a6 m6 k6),grow,by omega,by go_num,?_,?_,hG6.other (by simp only;omega) _,hgl,?_,hb6.setCell (p:=⟨g,k,none⟩) (by simp only;omega) _,by simp;omega⟩,by simp [intOf];omega⟩
    ·rw [HG2.out,← hsl]
     exact hP
    ·rw [HSZ.out]
     exact hS6.other (by simp only;omega) _
    ·rw [HG2.out]
     exact hrow
   ·have hmo:(u:Int)∉(gath l i).1:=fun h=>hm (hmem.1 h)
    have HG2:Hid (gath l (i+1)=((gath l i).1++[(u:Int)],(gath l i).2++[[(i:Int)]])):=by
     rw [Hid,Qch (by rw [hgd];exact hmo),hgd]
    have HSZ:Hid ((szL l i).set u 0=szL l (i+1)):=Qou hlt hu huN
    have HRW:Hid (GrpRow ((gath l i).1++[(u:Int)]) (grow.set u (((gath l i).1.length:Nat):Int))):=GrpRow.new hrow.out hmo (by omega)
    have hcp:0<l.count (u:Int):=List.count_pos_iff.2 (by rw [← hu];exact YG hlt)
    have hcl:l.count (u:Int)≤l.length:=List.count_le_length
    obtain⟨q,hq⟩:∃ q,l.count (u:Int)=q:=⟨_,rfl⟩
    have t0:wr.cell? ⟨gs,u,none⟩=some (.int .i64 (q:Int)):=hS.cell (by rw [YH,Qil huN,if_neg hm,hq];rfl)
    rw [hq] at hcp hcl
    obtain⟨gv,hgv⟩:∃ gv,grow[u]? = some gv:=⟨_,YB (by omega)⟩
    have t1:wr.cell? ⟨gg,u,none⟩=some (.int .i64 gv):=hG.cell (by rw [YH,hgv];rfl)
    obtain⟨al,cl,rfl⟩:=Qaf hGr.own
    have hK:(gath l i).1.length=svs.length:=by omega
    rw [hK] at HRW
    have hsl2:svs.length≤i:=by omega
    have hq0:(0:Int)<(q:Int):=by omega
    have HSL:Hid (svs.length=(gath l i).2.length):=hsl
    clear hc hok hmem hm hmo hgd hq hgv hsl hlen hfew hrow
    have hGr1:=hGr.low (p:=⟨gg,u,none⟩) (by simp only;omega) (.int .i64 (svs.length:Int))
    have hS1:=hS.other (p:=⟨gg,u,none⟩) (by simp only;omega) (.int .i64 (svs.length:Int))
    have hG1:=hG.set u (.int .i64 (svs.length:Int))
    rw [← List.map_set] at hG1
    have hb1:=hb.setCell (p:=⟨gg,u,none⟩) (by simp only;omega) (.int .i64 (svs.length:Int))
    have tq:(wr.setCell ⟨gg,u,none⟩ (.int .i64 (svs.length:Int))).cell? ⟨gs,u,none⟩=some (.int .i64 (q:Int)):=(World.cell?_setCell_other _ _ _ _ (fun e=>by have h1:=congrArg Addr.block e;simp only at h1;omega)).trans t0
    have hsz1:w3.heap.size≤(wr.setCell ⟨gg,u,none⟩ (.int .i64 (svs.length:Int))).heap.size:=by simpa using hsz
    have hne:gs≠gg:=by omega
    have hsW:(wr.setCell ⟨gg,u,none⟩ (.int .i64 (svs.length:Int))).heap.size=wr.heap.size:=by simp
    have hmx:svs.length+1≤maxLen:=by unfold maxLen;omega
    have hby:(svs.length+1)*24≤140737488355328:=by omega
    have hone:∀ u∈[Value.slice (some ⟨wr.heap.size,0,none⟩) 0 q],u.oneCell'=true:=YO
    go_wp2_with (first | (at_make;refine wpList_make_own _ rfl _ _ 27 rfl w3.heap.size 3 i0 (.int .i64 0) 1 Tryz.underlying27 hi hz0 hz1 .i64 .i64 _ q rfl rfl rfl (by rw [hz2];omega) (by unfold maxLen;omega) hsz1 ?_;intro wA hownA hgA;rw [hsW] at hownA;have hLA:=World.ownsRow.alloc (Qal hGr1.own hgA (Qk6 _)) (.cells #[.slice (some ⟨wr.heap.size,0,none⟩) 0 q] 27);have hnews:=Qbc wA (.slice (some ⟨wr.heap.size,0,none⟩) 0 q) 27;have hbs:w3.heap.size≤(wA.alloc (.cells #[.slice (some ⟨wr.heap.size,0,none⟩) 0 q] 27)).heap.size:=Nat.le_trans (Nat.le_trans hsz1 hgA.size) (by simp)) | (at_builtin;refine wpList_append_own_at _ rfl _ _ 35 rfl w3.heap.size 27 j0 (.slice none 0 0) 1 24 Tryz.underlying35 kj kz0 kz1 kz2 rfl (by decide) (.slice al svs.length cl) _ _ rfl hLA ⟨wA.heap.size,0,none⟩ 1 1 [.slice (some ⟨wr.heap.size,0,none⟩) 0 q] rfl rfl hnews hone hmx hby hbs ?_))
    intro v6 w6 hown6 hg6 hnil6 hat6
    obtain⟨g,cap2,rfl⟩:=QcQ hown6 (by omega)
    have hWA:wr.heap.size<wA.heap.size:=(hownA.lt wr.heap.size rfl).2
    have hGr6:=hGr1.new hgA hownA (by simp [Value.ownBlock]) (by rw [hsW];exact hWA) hown6 hg6 (by rw [World.size_alloc];exact hat6)
    have hlowL:∀ k,(Value.slice al svs.length cl).ownBlock=some k→w3.heap.size≤k:=fun k e=>(hGr1.own.lt k e).1
    have hlo6:Below w3.heap.size (wr.setCell ⟨gg,u,none⟩ (.int .i64 (svs.length:Int))) w6:=((YD.grown hgA hsz1 (fun k e=>by cases e)).alloc (Nat.le_trans hsz1 hgA.size) _).grown hg6 hbs hlowL
    have hS6:=hS1.below hlo6 (by omega)
    have hG6:=hG1.below hlo6 (by omega)
    have hb6:Below w.heap.size w w6:=hb1.trans (hlo6.mono (by omega))
    have hsz6:w3.heap.size≤w6.heap.size:=Nat.le_trans hsz1 hlo6.size
    have s0:w6.cell? ⟨gs,u,none⟩=some (.int .i64 (q:Int)):=(hlo6.cell (p:=⟨gs,u,none⟩) (by simp only;omega)).trans tq
    have s1:=hS6.frozen u
    have hS7:=hS6.set u (.int .i64 0)
    rw [← List.map_set,HSZ.out] at hS7
    have hG7:=hG6.other (p:=⟨gs,u,none⟩) (by simp only;omega) (.int .i64 0)
    have hGr7:=hGr6.low (p:=⟨gs,u,none⟩) (by simp only;omega) (.int .i64 0)
    have hb7:=hb6.setCell (p:=⟨gs,u,none⟩) (by simp only;omega) (.int .i64 0)
    have hsz7:w3.heap.size≤(w6.setCell ⟨gs,u,none⟩ (.int .i64 0)).heap.size:=by simpa using hsz6
    have t7:(w6.setCell ⟨gs,u,none⟩ (.int .i64 0)).cell? ⟨gg,u,none⟩=some (.int .i64 (svs.length:Int)):=hG7.cell (by rw [YH,List.getElem?_set_self (by omega)];rfl)
    clear hown6 hg6 hnil6 hat6 hLA hnews hone hbs hgA hownA hGr6 hGr1 hS1 hG1 tq t0 t1 hlo6 hS6 hG6 hlowL hmx hby
    generalize hC:w6.setCell ⟨gs,u,none⟩ (.int .i64 0)=w7 at hS7 hG7 hGr7 hb7 hsz7 t7
    have hsk:(svs++[Value.slice (some ⟨wr.heap.size,0,none⟩) 0 q])[svs.length]? = some (.slice (some ⟨wr.heap.size,0,none⟩) 0 q):=by simp
    have hxs:((gath l i).2++[([]:List Int)])[svs.length]? = some []:=by rw [HSL.out];simp
    have hin:=hGr7.inn svs.length _ _ hsk hxs
    have hll:(svs++[Value.slice (some ⟨wr.heap.size,0,none⟩) 0 q]).length=svs.length+1:=by simp
    have hown7:=hGr7.own
    rw [hll] at hown7
    have hcell:w7.cell? ⟨g,svs.length,none⟩=some (.slice (some ⟨wr.heap.size,0,none⟩) 0 q):=(hown7.cellAt svs.length (by omega)).trans hsk
    have hkl:(svs.length:Int)<(svs.length:Int)+1:=by omega
    have hownI:=hin.alloc (.cells #[.int .i64 (i:Int)] 3)
    have hnews:=Qbc w7 (.int .i64 (i:Int)) 3
    have hone:∀ u∈[Value.int .i64 (i:Int)],u.oneCell'=true:=YO
    have hbs:w3.heap.size≤(w7.alloc (.cells #[.int .i64 (i:Int)] 3)).heap.size:=by simp;omega
    have hlow:∀ k,(Value.slice (some ⟨wr.heap.size,0,none⟩) 0 q).ownBlock=some k→w3.heap.size≤k:=fun k hk=>(hin.lt k hk).1
    have hmx:([]:List Int).length+1≤maxLen:=by unfold maxLen;simp
    have hby:(([]:List Int).length+1)*8≤140737488355328:=by simp
    have hog:=hown7.lt g rfl
    go_wp2_with (at_builtin;refine wpList_append_own_at _ rfl _ _ 27 rfl w3.heap.size 3 i0 (.int .i64 0) 1 8 Tryz.underlying27 hi hz0 hz1 hz2 rfl (by decide) (.slice (some ⟨wr.heap.size,0,none⟩) 0 q) _ _ rfl hownI ⟨w7.heap.size,0,none⟩ 1 1 [.int .i64 (i:Int)] rfl rfl hnews hone hmx hby hbs ?_)
    intro v8 w8 hown8 hg8 hnil8 hat8
    obtain⟨a8,m8,k8,rfl⟩:=Qar hown8
    have hGr7':=hGr7
    rw [← hll] at hGr7'
    have hP:=hGr7'.push (y:=(i:Int)) hsk hxs hown8 hg8 (by rw [World.size_alloc];exact hat8)
    have hout:(Value.slice (some ⟨g,0,none⟩) (svs.length+1) cap2).ownBlock=none∨(Value.slice (some ⟨g,0,none⟩) (svs.length+1) cap2).ownBlock≠(Value.slice (some ⟨wr.heap.size,0,none⟩) 0 q).ownBlock:=by
     refine .inr fun e=>?_
     rcases hGr7.outer svs.length _ hsk with h1 | h1
     ·rw [h1] at e;cases e
     ·exact h1 e.symm
    have hown9:=Qal (World.ownsRow.alloc hown7 (.cells #[.int .i64 (i:Int)] 3)) hg8 hout
    have y0:w8.cell? ⟨g,svs.length,none⟩=some (.slice (some ⟨wr.heap.size,0,none⟩) 0 q):=(hown9.cellAt svs.length (by omega)).trans hsk
    have y1:=hown9.frozenAt svs.length
    have hlo8:Below w3.heap.size w7 w8:=(YD.alloc hsz7 _).grown hg8 hbs hlow
    have hb8:Below w.heap.size w w8:=hb7.trans (hlo8.mono (by omega))
    have hS8:=hS7.below hlo8 (by omega)
    have hG8:=hG7.below hlo8 (by omega)
    have hgw:w3.heap.size≤g:=hog.1
    have hsz8:w3.heap.size≤w8.heap.size:=Nat.le_trans hsz7 hlo8.size
    have HPre:Hid (((gath l i).2++[([]:List Int)]).set svs.length ([]++[(i:Int)])=(gath l i).2++[[(i:Int)]]):=by
     rw [Hid,HSL.out,List.set_append_right _ _ YA,Nat.sub_self]
     rfl
    rw [HPre.out,hll] at hP
    clear hown8 hg8 hnil8 hat8 hownI hnews hone c0 t7 hcell hGr7 hGr7' hown9 hown7 hC
    go_wp2
    refine⟨⟨i+1,(svs++[Value.slice (some ⟨wr.heap.size,0,none⟩) 0 q]).set svs.length (.slice a8 m8 k8),grow.set u (svs.length:Int),by omega,by go_num,?_,hS8.other (by simp only;omega) _,hG8.other (by simp only;omega) _,by rw [List.length_set];exact hgl,?_,hb8.setCell (p:=⟨g,svs.length,none⟩) (by simp only;omega) _,by simp;omega⟩,by simp [intOf];omega⟩
    ·rw [HG2.out]
     exact hP
    ·rw [HG2.out]
     exact HRW
  ·obtain rfl:i=l.length:=by omega
   go_wp2
   go_ret
   exact⟨_,svs,_,rfl,hGr,hb,HW3.out⟩
def relax (L:List Int)(e:Ed):List Int:=(L.set e.1.toNat (min (L.getD e.1.toNat 0) (L.getD e.2.1.toNat 0))).set e.2.1.toNat (min (L.getD e.1.toNat 0) (L.getD e.2.1.toNat 0))
theorem QcL (L:List Int)(e:Ed):(relax L e).length=L.length:=by simp [relax]
theorem Qbv:∀ (es:List Ed) (L:List Int),(es.foldl relax L).length=L.length
 | [],_=>rfl
 | e :: es,L=>by rw [List.foldl_cons,Qbv es,QcL]
def idL (N:Nat):List Int:=(List.range N).map fun (v:Nat)=>(v:Int)
def labAt (N:Nat)(es:List Ed):Nat→List Int
 | 0=>idL N
 | i+1=>es.foldl relax (labAt N es i)
theorem QaB (N:Nat)(es:List Ed):∀ i,(labAt N es i).length=N
 | 0=>by simp [labAt,idL]
 | i+1=>by rw [labAt,Qbv,QaB N es i]
theorem QlR {es:List Ed}{j:Nat}(h:j<es.length)(L:List Int):(es.take (j+1)).foldl relax L=relax ((es.take j).foldl relax L) es[j]:=by
 rw [List.take_add_one,YB h,List.foldl_append]
 rfl
def Qb8 (N j:Nat):List Int:=(List.range N).map fun (v:Nat)=>if v<j then (v:Int) else 0
theorem Qdv (N j:Nat):(Qb8 N j).length=N:=by simp [Qb8]
theorem QeG {N j v:Nat}(h:v<N):(Qb8 N j)[v]? = some (if v<j then (v:Int) else 0):=by simp [Qb8,h]
theorem Qh1 (N:Nat):Qb8 N 0=List.replicate N 0:=by
 apply List.ext_getElem <;> simp [Qb8]
theorem Qh3 (N:Nat):Qb8 N N=idL N:=by
 unfold Qb8 idL
 refine List.map_congr_left fun v hv=>?_
 rw [if_pos (List.mem_range.1 hv)]
theorem Qh2 {N j:Nat}(h:j<N):(Qb8 N j).set j (j:Int)=Qb8 N (j+1):=by
 apply List.ext_getElem?
 intro v
 by_cases hv:v<N
 ·rw [QeG hv,List.getElem?_set,Qdv,QeG hv]
  by_cases h1:j=v
  ·subst h1
   rw [if_pos rfl,if_pos h,if_pos (by omega)]
  ·rw [if_neg h1]
   by_cases h2:v<j
   ·rw [if_pos h2,if_pos (by omega)]
   ·rw [if_neg h2,if_neg (by omega)]
 ·rw [YL (by rw [List.length_set,Qdv];omega),YL (by rw [Qdv];omega)]
theorem QcM (N:Nat)(l:List Ed)(hR:RightG (N:Int) l)(sv:Value)(w:World)(hl:Edges w.heap.size w sv l):
  Calls Tryz.prog 49 #[.agg #[.int .i64 (N:Int),sv]] w fun r w'=>∃ g,r = .returned (.slice (some ⟨g,0,none⟩) N N)∧Blk 3 w' g ((labAt N l N).map (Value.int .i64))∧w.heap.size<g∧Below w.heap.size w w':=by
 have hmix:=mixed
 have hg1:Grew w (w.alloc (.cells #[.int .i64 (N:Int),sv] 24)):=(Grew.refl w).alloc _
 have hX1:Blk 24 (w.alloc (.cells #[.int .i64 (N:Int),sv] 24)) w.heap.size [.int .i64 (N:Int),sv]:=heap_alloc_new w _
 obtain⟨p,c,rfl⟩:=hl.len
 obtain⟨i0,hi,hz0,hz1,hz2⟩:=info_parts infoI
 have hn1:=hR.n1
 have hm1:=hR.m1
 have q0:=hX1.cell (j:=0) rfl
 have q1:=hX1.cell (j:=1) rfl
 have hs1:(w.alloc (.cells #[.int .i64 (N:Int),.slice p l.length c] 24)).heap.size=w.heap.size+1:=by simp
 go_enter Tryz.func49,Tryz.ntmps49
 go_wp2_with (at_make;refine wpList_make_full _ rfl _ _ 27 rfl (w.heap.size+1) 3 i0 (.int .i64 0) 1 Tryz.underlying27 hi hz0 hz1 .i64 .i64 _ _ N rfl rfl rfl rfl (by rw [hz2];omega) (by unfold maxLen;omega) (by rw [hs1];exact YA) ?_;intro w3 hown hgrow;have hb3:Below (w.heap.size+1) (w.alloc (.cells #[.int .i64 (N:Int),.slice p l.length c] 24)) w3:=YD.grown hgrow (by rw [hs1];exact YA) (fun k e=>by cases e);have x0:=(hb3.cell (p:=⟨w.heap.size,0,none⟩) (by simp only;omega)).trans q0;have x1:=(hb3.cell (p:=⟨w.heap.size,1,none⟩) (by simp only;omega)).trans q1)
 have hrow:=Blk.made hown
 rw [QaK,← Qh1 N,hs1] at hrow
 have hbw3:Below w.heap.size w w3:=hg1.below.trans (hb3.mono (by omega))
 clear hown hgrow hi hz0 hz1 hz2 q0 q1 hb3 hX1 hg1 hs1
 obtain⟨g,hg⟩:∃ g,g=w.heap.size+1:=⟨_,rfl⟩
 rw [← hg] at hrow ⊢
 have hgw:w.heap.size<g:=by omega
 clear hg
 go_loopw [4] (fun i wr=>∃ j:Nat,j≤N∧i = .int .i64 j∧Blk 3 wr g ((Qb8 N j).map (Value.int .i64))∧Below g w3 wr) (fun i _=>N-(intOf i).toNat)
 case atStart=>exact⟨0,YN,rfl,hrow,YD⟩
 case round=>
  obtain⟨j,hj,rfl,hB,hb⟩:=hrel
  have y0:=(hb.cell (p:=⟨w.heap.size,0,none⟩) hgw).trans x0
  by_cases hlt:j<N
  ·have hjl:(j:Int)<(N:Int):=by omega
   have t0:wr.cell? ⟨g,j,none⟩=some (.int .i64 0):=hB.cell (by rw [YH,QeG hlt,if_neg (Nat.lt_irrefl j)];rfl)
   have f0:=hB.frozen j
   have hBn:=hB.set j (.int .i64 (j:Int))
   rw [← List.map_set,Qh2 hlt] at hBn
   go_wp2
   exact⟨⟨j+1,by omega,by go_num,hBn,hb.setCell (p:=⟨g,j,none⟩) YA _⟩,by simp [intOf];omega⟩
  ·obtain rfl:j=N:=by omega
   have hN:¬ (j:Int)<(j:Int):=by omega
   rw [Qh3] at hB
   have y1:=(hb.cell (p:=⟨w.heap.size,1,none⟩) hgw).trans x1
   have hbw4:Below w.heap.size w wr:=hbw3.trans (hb.mono (by omega))
   have hB0:Blk 3 wr g ((labAt j l 0).map (Value.int .i64)):=hB
   clear hB hb x0 x1 hrow hbw3
   generalize wr=w4 at *
   go_wp2
   go_loopw [5] (fun i wx=>∃ q:Nat,q≤j∧i = .int .i64 q∧Blk 3 wx g ((labAt j l q).map (Value.int .i64))∧Below g w4 wx) (fun i _=>j-(intOf i).toNat)
   case atStart=>exact⟨0,YN,rfl,hB0,YD⟩
   case round=>
    obtain⟨q,hq,rfl,hBq,hbq⟩:=hrel
    have z0:=(hbq.cell (p:=⟨w.heap.size,0,none⟩) hgw).trans y0
    have z1:=(hbq.cell (p:=⟨w.heap.size,1,none⟩) hgw).trans y1
    have hbw5:Below w.heap.size w wr:=hbw4.trans (hbq.mono (by omega))
    generalize wr=w5 at *
    by_cases hlt:q<j
    ·have hjl:(q:Int)<(j:Int):=by omega
     have hlen:=QaB j l q
     have HNX:Hid (labAt j l (q+1)=l.foldl relax (labAt j l q)):=rfl
     generalize labAt j l q=L at *
     go_wp2
     go_loopw [6] (fun i wy=>∃ k:Nat,k≤l.length∧i = .int .i64 k∧Blk 3 wy g (((l.take k).foldl relax L).map (Value.int .i64))∧Below g w5 wy) (fun i _=>l.length-(intOf i).toNat)
     case atStart=>exact⟨0,YN,rfl,hBq,YD⟩
     case round=>
      obtain⟨k,hk,rfl,hBk,hbk⟩:=hrel
      have u1:=(hbk.cell (p:=⟨w.heap.size,1,none⟩) hgw).trans z1
      have hbw6:Below w.heap.size w wr:=hbw5.trans (hbk.mono (by omega))
      by_cases hkl:k<l.length
      ·obtain⟨b,off,rfl,hbb,hcap,hc,-⟩:=hl.open hkl
       obtain⟨c0,c1,c2⟩:=hc wr hbw6 k hkl
       have hkl':(k:Int)<(l.length:Int):=by omega
       have hok:=(hR.each l[k] (YG hkl)).1
       unfold okE at hok
       obtain⟨u,hu⟩:∃ u:Nat,l[k].1=(u:Int):=⟨l[k].1.toNat,by omega⟩
       obtain⟨v,hv⟩:∃ v:Nat,l[k].2.1=(v:Int):=⟨l[k].2.1.toNat,by omega⟩
       have huN:u<j:=by omega
       have hvN:v<j:=by omega
       have hll:((l.take k).foldl relax L).length=j:=by rw [Qbv,hlen]
       have HS:Hid ((l.take (k+1)).foldl relax L=(((l.take k).foldl relax L).set u (min (((l.take k).foldl relax L).getD u 0) (((l.take k).foldl relax L).getD v 0))).set v (min (((l.take k).foldl relax L).getD u 0) (((l.take k).foldl relax L).getD v 0))):=by
        rw [Hid,QlR hkl,relax,hu,hv,YM,YM]
       rw [hu] at c0
       rw [hv] at c1
       generalize (l.take k).foldl relax L=R at *
       have huN':(u:Int)<(j:Int):=by omega
       have hvN':(v:Int)<(j:Int):=by omega
       have t0:wr.cell? ⟨g,u,none⟩=some (.int .i64 (R.getD u 0)):=hBk.cell (by rw [YH,YB (by omega)];simp [show u<R.length by omega])
       have t1:wr.cell? ⟨g,v,none⟩=some (.int .i64 (R.getD v 0)):=hBk.cell (by rw [YH,YB (by omega)];simp [show v<R.length by omega])
       generalize R.getD u 0=a at *
       generalize R.getD v 0=d at *
       have hbg:b≠g:=by omega
       have hwg:w.heap.size≠g:=by omega
       clear hc hok hu hv
       go_wp2
       go_quiet (fail)
       rw [show (if d<a then d else a)=min a d by split <;> omega]
       have hBq8:Blk 3 (wr.drewN nq) g (R.map (Value.int .i64)):=hBk
       have u8:(wr.drewN nq).cell? ⟨w.heap.size,1,none⟩=some (.slice (some ⟨b,off,none⟩) l.length c):=u1
       have e0:(wr.drewN nq).cell? ⟨b,off+k*3,none⟩=some (.int .i64 (u:Int)):=c0
       have e1:(wr.drewN nq).cell? ⟨b,off+k*3+1,none⟩=some (.int .i64 (v:Int)):=c1
       have s0:(wr.drewN nq).cell? ⟨g,u,none⟩=some (.int .i64 a):=t0
       have s1:(wr.drewN nq).cell? ⟨g,v,none⟩=some (.int .i64 d):=t1
       have hb8:Below g w5 (wr.drewN nq):=Qaa hbk nq
       generalize wr.drewN nq=w8 at *
       generalize min a d=m at *
       have f0:=hBq8.frozen u
       have f1:=(hBq8.set u (.int .i64 m)).frozen v
       have r1:∃ x,(w8.setCell ⟨g,u,none⟩ (.int .i64 m)).cell? ⟨g,v,none⟩=some (.int .i64 x):=by
        by_cases huv:u=v
        ·subst huv
         exact⟨m,(hBq8.set u (.int .i64 m)).cell (by rw [← List.map_set,YH,List.getElem?_set_self (by omega)];rfl)⟩
        ·exact⟨d,(World.cell?_setCell_other _ _ _ _ (fun e=>huv (by have:=congrArg Addr.off e;simpa using this))).trans s1⟩
       obtain⟨x,r1⟩:=r1
       have hBn:=(hBq8.set u (.int .i64 m)).set v (.int .i64 m)
       rw [← List.map_set,← List.map_set] at hBn
       clear c0 c1 c2 t0 t1 u1 hBk hbk
       go_wp2
       exact⟨⟨k+1,by omega,by go_num,by rw [HS.out];exact hBn,(hb8.setCell (p:=⟨g,u,none⟩) YA _).setCell (p:=⟨g,v,none⟩) YA _⟩,by simp [intOf];omega⟩
      ·obtain rfl:k=l.length:=by omega
       have hkl':¬ (l.length:Int)<(l.length:Int):=by omega
       rw [List.take_length] at hBk
       go_wp2
       exact⟨⟨q+1,by omega,by go_num,by rw [HNX.out];exact hBk,hbq.trans (hbk.mono YA)⟩,by simp [intOf];omega⟩
    ·obtain rfl:q=j:=by omega
     have hjl:¬ (q:Int)<(q:Int):=by omega
     go_wp2
     go_ret
     exact⟨g,rfl,hBq,hgw,hbw5⟩
theorem QaH {W:World}{a b:Nat}{e:TypeId}{size:Nat}{v:Value}{n:Nat}{xs:List Value}(h:W.ownsRow b e size v n xs)(hab:a≤b):W.ownsRow a e size v n xs:=by
 obtain⟨h1,h2⟩:=h
 refine⟨h1,?_⟩
 rcases h2 with h2 | ⟨g,cap,cur,hv,hb,r⟩
 ·exact .inl h2
 ·exact .inr ⟨g,cap,cur,hv,Nat.le_trans hab hb,r⟩
theorem Grp.add {h0:Nat}{lv lv' sv:Value}{svs:List Value}{pre:List (List Int)}{W A B:World}{o:Obj}{xs:List Int}(h:Grp h0 lv svs pre W)(hh:h0≤W.heap.size)(hA:Below W.heap.size W A)(hs:A.ownsRow W.heap.size 3 1 sv xs.length (xs.map (Value.int .i64)))
  (hB:B.ownsRow h0 27 1 lv' (svs.length+1) (svs++[sv])) (hg:(A.alloc o).grownBy B lv.ownBlock) (hat:lv'.ownBlock=lv.ownBlock∨lv'.ownBlock=some (A.alloc o).heap.size):Grp h0 lv' (svs++[sv]) (pre++[xs]) B:=by
 have hA':=h.go hA
 have hkA:∀ {e:TypeId} {size:Nat} {v:Value} {n:Nat} {zs:List Value},A.ownsRow h0 e size v n zs→(v.ownBlock=none∨v.ownBlock≠lv.ownBlock)→B.ownsRow h0 e size v n zs:=fun {e size v n zs} ho hne=>Qal (World.ownsRow.alloc ho o) hg hne
 have hlen:=h.len
 have far:∀ {e:TypeId} {size:Nat} {x:Value} {n:Nat} {zs:List Value},W.ownsRow h0 e size x n zs→sv.ownBlock=none∨sv.ownBlock≠x.ownBlock:=fun {e size x n zs} ho=>by
  cases hv:sv.ownBlock with
  | none=>exact .inl rfl
  | some b=>
   refine .inr fun e=>?_
   have h1:=(hs.lt b hv).1
   have h2:=(ho.lt b e.symm).2
   omega
 have far':∀ {e:TypeId} {size:Nat} {x:Value} {n:Nat} {zs:List Value},W.ownsRow h0 e size x n zs→x.ownBlock=none∨x.ownBlock≠sv.ownBlock:=fun {e size x n zs} ho=>by
  cases hv:x.ownBlock with
  | none=>exact .inl rfl
  | some b=>
   refine .inr fun e=>?_
   have h1:=(hs.lt b e.symm).1
   have h2:=(ho.lt b hv).2
   omega
 have split:∀ {k:Nat} {x:Value},(svs++[sv])[k]? = some x→(k<svs.length∧svs[k]? = some x)∨(k=svs.length∧x=sv):=fun {k x} hx=>by
  rw [List.getElem?_append] at hx
  by_cases hk:k<svs.length
  ·rw [if_pos hk] at hx
   exact .inl ⟨hk,hx⟩
  ·rw [if_neg hk] at hx
   have h1:=(YE hx).1
   simp at h1
   have h2:k=svs.length:=by omega
   subst h2
   simp at hx
   exact .inr ⟨rfl,hx.symm⟩
 have row:∀ {k:Nat} {x:Value},svs[k]? = some x→∃ zs:List Int,W.ownsRow h0 3 1 x zs.length (zs.map (Value.int .i64)):=fun {k x} hx=>by
  have hk:=(YE hx).1
  exact⟨_,h.inn k x _ hx (YB (by omega))⟩
 have new:∀ {e:TypeId} {size:Nat} {x:Value} {n:Nat} {zs:List Value},A.ownsRow h0 e size x n zs→x.ownBlock=none∨x.ownBlock≠some (A.alloc o).heap.size:=fun {e size x n zs} ho=>Qdn ho (by simp)
 refine⟨by simp [hlen],by rw [YI];exact hB,?_,?_,?_⟩
 ·intro k x zs hx hp
  rcases split hx with ⟨hk,hy⟩ | ⟨rfl,rfl⟩
  ·rw [List.getElem?_append_left (by omega)] at hp
   exact hkA (hA'.inn k x zs hy hp) (h.outer k x hy)
  ·rw [hlen,List.getElem?_append_right YA,Nat.sub_self] at hp
   simp at hp
   subst hp
   exact hkA (QaH hs hh) (far h.own)
 ·intro k j x x' hx hx' hkj
  rcases split hx with ⟨hk,hy⟩ | ⟨rfl,rfl⟩
  ·rcases split hx' with ⟨hj,hy'⟩ | ⟨rfl,rfl⟩
   ·exact h.apart k j x x' hy hy' hkj
   ·obtain⟨zs,hz⟩:=row hy
    exact far' hz
  ·rcases split hx' with ⟨hj,hy'⟩ | ⟨rfl,rfl⟩
   ·obtain⟨zs,hz⟩:=row hy'
    exact far hz
   ·exact absurd rfl hkj
 ·intro k x hx
  rcases split hx with ⟨hk,hy⟩ | ⟨rfl,rfl⟩
  ·rcases hat with e | e
   ·rw [e];exact h.outer k x hy
   ·rw [e]
    exact new (hA'.inn k x _ hy (YB (by omega)))
  ·rcases hat with e | e
   ·rw [e];exact far h.own
   ·rw [e]
    exact new (QaH hs hh)
def memAt (L:List Int)(v u:Nat):List Int:=((List.range u).filter fun x=>decide (v≤x) && decide (L.getD x 0=(v:Int))).map fun (x:Nat)=>(x:Int)
theorem Qet (L:List Int)(v:Nat):memAt L v v=[]:=by
 unfold memAt
 rw [List.filter_eq_nil_iff.2]
 ·rfl
 ·intro x hx
  have:=List.mem_range.1 hx
  simp
  omega
theorem QbA {L:List Int}{v u:Nat}(h:v≤u):memAt L v (u+1)=if L.getD u 0=(v:Int) then memAt L v u++[(u:Int)] else memAt L v u:=by
 unfold memAt
 rw [List.range_succ,List.filter_append,List.map_append]
 have e:List.filter (fun x=>decide (v≤x) && decide (L.getD x 0=(v:Int))) [u]=if (decide (v≤u) && decide (L.getD u 0=(v:Int)))=true then [u] else []:=by
  rw [List.filter_cons]
  rfl
 by_cases hu:L.getD u 0=(v:Int)
 ·have hc:(decide (v≤u) && decide (L.getD u 0=(v:Int)))=true:=by rw [decide_eq_true h,decide_eq_true hu];rfl
  rw [if_pos hu,e,if_pos hc]
  rfl
 ·have hc:¬ (decide (v≤u) && decide (L.getD u 0=(v:Int)))=true:=by rw [decide_eq_false hu,Bool.and_false];simp
  rw [if_neg hu,e,if_neg hc,List.map_nil,List.append_nil]
theorem Qlo (L:List Int)(v u:Nat):(memAt L v u).length≤u:=by
 unfold memAt
 rw [List.length_map]
 exact Nat.le_trans (List.length_filter_le _ _) (by simp)
def rcAt (L:List Int)(N:Nat):Nat→List (List Int)
 | 0=>[]
 | j+1=>if L.getD j 0=(j:Int) then rcAt L N j++[memAt L j N] else rcAt L N j
theorem QfA (L:List Int)(N:Nat):∀ j,(rcAt L N j).length≤j
 | 0=>by simp [rcAt]
 | j+1=>by
  have:=QfA L N j
  unfold rcAt
  split
  ·simp;omega
  ·omega
theorem Qdm (N:Nat)(l:List Ed)(hR:RightG (N:Int) l)(sv:Value)(w:World)(hl:Edges w.heap.size w sv l):
  Calls Tryz.prog 70 #[.agg #[.int .i64 (N:Int),sv]] w fun r w'=>∃ lv svs h0,r = .returned lv∧Grp h0 lv svs (rcAt (labAt N l N) N N) w'∧Below w.heap.size w w':=by
 obtain⟨p,c,rfl⟩:=hl.len
 have hg1:Grew w (w.alloc (.cells #[.int .i64 (N:Int),.slice p l.length c] 24)):=(Grew.refl w).alloc _
 have hX1:Blk 24 (w.alloc (.cells #[.int .i64 (N:Int),.slice p l.length c] 24)) w.heap.size [.int .i64 (N:Int),.slice p l.length c]:=heap_alloc_new w _
 obtain⟨i0,hi,hz0,hz1,hz2⟩:=info_parts infoI
 obtain⟨j0,kj,kz0,kz1,kz2⟩:=info_parts Qob
 have hn1:=hR.n1
 have q0:=hX1.cell (j:=0) rfl
 have q1:=hX1.cell (j:=1) rfl
 have hlb:=QcM N l hR _ _ (hl.go hg1.below)
 go_enter Tryz.func70,Tryz.ntmps70
 go_wp2_with fail
 refine hlb.mono ?_
 clear hlb
 rintro e w2 ⟨g,rfl,hB2,hgw,hb2⟩
 have hbw2:=hg1.below.trans (hb2.mono hg1.below.size)
 have hX2:=hX1.go hb2
 have hwl:w.heap.size<w2.heap.size:=hX2.lt
 have hgl:g<w2.heap.size:=hB2.lt
 have x0:=hX2.cell (j:=0) rfl
 have hll:=QaB N l N
 obtain⟨L,HL⟩:∃ L,Hid (labAt N l N=L):=⟨_,rfl⟩
 rw [HL.out] at hB2 hll
 clear q0 q1 hX1 hb2 hg1 hX2
 go_wp2
 go_loopw [4,5] (fun ov iv wr=>∃ (j:Nat) (svs:List Value),j≤N∧iv = .int .i64 j∧Grp w2.heap.size ov svs (rcAt L N j) wr∧Below w2.heap.size w2 wr) (fun _ iv _=>N-(intOf iv).toNat)
 case atStart=>exact⟨0,[],YN,rfl,Grp.start _ _,YD⟩
 case round=>
  obtain⟨j,svs,hj,rfl,hGr,hb⟩:=hrel
  have y0:=(hb.cell (p:=⟨w.heap.size,0,none⟩) hwl).trans x0
  have hBr:=hB2.below hb hgl
  have hbw:Below w.heap.size w wr:=hbw2.trans (hb.mono (by omega))
  by_cases hlt:j<N
  ·have hjl:(j:Int)<(N:Int):=by omega
   have t0:wr.cell? ⟨g,j,none⟩=some (.int .i64 (L.getD j 0)):=hBr.cell (by rw [YH,YB (by omega)];simp [show j<L.length by omega])
   have HRC:Hid (rcAt L N (j+1)=if L.getD j 0=(j:Int) then rcAt L N j++[memAt L j N] else rcAt L N j):=rfl
   have hrl:=QfA L N j
   have hsl:=hGr.len
   have hs2:svs.length≤j:=by omega
   clear hsl hrl
   obtain⟨al,cl,rfl⟩:=Qaf hGr.own
   by_cases he:L.getD j 0=(j:Int)
   ·have he':(L.getD j 0 != (j:Int))=false:=by simpa using he
    have HRN:Hid (rcAt L N (j+1)=rcAt L N j++[memAt L j N]):=by rw [Hid,HRC.out,if_pos he]
    have hszr:=hb.size
    clear HRC he
    generalize L.getD j 0=a at he' t0
    generalize wr=w4 at *
    go_wp2
    go_loopw [6,7] (fun cv uv wx=>∃ u:Nat,j≤u∧u≤N∧uv = .int .i64 u∧wx.ownsRow w4.heap.size 3 1 cv (memAt L j u).length ((memAt L j u).map (Value.int .i64))∧Below w4.heap.size w4 wx) (fun _ uv _=>N-(intOf uv).toNat)
    case atStart=>exact⟨j,YA,by omega,rfl,by rw [Qet];exact World.ownsRow_nil _ _ _ _,YD⟩
    case round=>
     obtain⟨u,hu1,hu2,rfl,hown,hbx⟩:=hrel
     have z0:=(hbx.cell (p:=⟨w.heap.size,0,none⟩) (by simp only;omega)).trans y0
     have hBx:=hBr.below hbx (by omega)
     have hml:=Qlo L j u
     obtain⟨ax,cx,rfl⟩:=Qaf hown
     by_cases hul:u<N
     ·have hul':(u:Int)<(N:Int):=by omega
      have t1:wr.cell? ⟨g,u,none⟩=some (.int .i64 (L.getD u 0)):=hBx.cell (by rw [YH,YB (by omega)];simp [show u<L.length by omega])
      have HM:Hid (memAt L j (u+1)=if L.getD u 0=(j:Int) then memAt L j u++[(u:Int)] else memAt L j u):=QbA hu1
      by_cases hd:L.getD u 0=(j:Int)
      ·have hd':(L.getD u 0==(j:Int))=true:=by simpa using hd
       have HM2:Hid (memAt L j (u+1)=memAt L j u++[(u:Int)]):=by rw [Hid,HM.out,if_pos hd]
       clear HM hd
       generalize L.getD u 0=d at *
       generalize memAt L j u=R at *
       have hownA:=hown.alloc (.cells #[.int .i64 (u:Int)] 3)
       have hnews:=Qbc wr (.int .i64 (u:Int)) 3
       have hone:∀ z∈[Value.int .i64 (u:Int)],z.oneCell'=true:=YO
       have hmx:R.length+1≤maxLen:=by unfold maxLen;omega
       have hby:(R.length+1)*8≤140737488355328:=by omega
       have hbs:w4.heap.size≤(wr.alloc (.cells #[.int .i64 (u:Int)] 3)).heap.size:=by have:=hbx.size;simp;omega
       have hlow:∀ k,(Value.slice ax R.length cx).ownBlock=some k→w4.heap.size≤k:=fun k hk=>(hown.lt k hk).1
       go_wp2_with (at_builtin;refine wpList_append_own_at _ rfl _ _ 27 rfl w4.heap.size 3 i0 (.int .i64 0) 1 8 Tryz.underlying27 hi hz0 hz1 hz2 rfl (by decide) (.slice ax R.length cx) _ _ rfl hownA ⟨wr.heap.size,0,none⟩ 1 1 [.int .i64 (u:Int)] rfl rfl hnews hone hmx hby hbs ?_)
       intro v6 w6 hown6 hg6 hnil6 hat6
       obtain⟨a6,m6,k6,rfl⟩:=Qar hown6
       have hb6:Below w4.heap.size w4 w6:=(hbx.alloc hbx.size _).grown hg6 hbs hlow
       have hown6':w6.ownsRow w4.heap.size 3 1 (.slice a6 m6 k6) (R++[(u:Int)]).length ((R++[(u:Int)]).map (Value.int .i64)):=by
        rw [YI,List.map_append];exact hown6
       clear hown6 hg6 hnil6 hat6 hownA hnews hone
       go_wp2
       exact⟨⟨u+1,by omega,by omega,by go_num,by rw [HM2.out];exact hown6',hb6⟩,by simp [intOf];omega⟩
      ·have hd':(L.getD u 0==(j:Int))=false:=by simpa using hd
       have HM2:Hid (memAt L j (u+1)=memAt L j u):=by rw [Hid,HM.out,if_neg hd]
       clear HM hd
       generalize L.getD u 0=d at *
       go_wp2
       exact⟨⟨u+1,by omega,by omega,by go_num,by rw [HM2.out];exact hown,hbx⟩,by simp [intOf];omega⟩
     ·obtain rfl:u=N:=by omega
      have hul':¬ (u:Int)<(u:Int):=by omega
      generalize memAt L j u=R at *
      have hLA:=World.ownsRow.alloc (hGr.go hbx).own (.cells #[.slice ax R.length cx] 27)
      have hnews:=Qbc wr (.slice ax R.length cx) 27
      have hone:∀ z∈[Value.slice ax R.length cx],z.oneCell'=true:=YO
      have hmx:svs.length+1≤maxLen:=by unfold maxLen;omega
      have hby:(svs.length+1)*24≤140737488355328:=by omega
      have hbs:w2.heap.size≤(wr.alloc (.cells #[.slice ax R.length cx] 27)).heap.size:=by have:=hbx.size;simp;omega
      have hlow:∀ k,(Value.slice al svs.length cl).ownBlock=some k→w2.heap.size≤k:=fun k hk=>(hGr.own.lt k hk).1
      go_wp2_with (at_builtin;refine wpList_append_own_at _ rfl _ _ 35 rfl w2.heap.size 27 j0 (.slice none 0 0) 1 24 Tryz.underlying35 kj kz0 kz1 kz2 rfl (by decide) (.slice al svs.length cl) _ _ rfl hLA ⟨wr.heap.size,0,none⟩ 1 1 [.slice ax R.length cx] rfl rfl hnews hone hmx hby hbs ?_)
      intro v6 w6 hown6 hg6 hnil6 hat6
      have hGn:=hGr.add hszr hbx hown hown6 hg6 (by rw [World.size_alloc];exact hat6)
      obtain⟨a6,m6,k6,rfl⟩:=Qar hown6
      have hb6:Below w2.heap.size w2 w6:=((hb.trans (hbx.mono hszr)).alloc (by have:=hbx.size;omega) _).grown hg6 hbs hlow
      clear hown6 hg6 hnil6 hat6 hLA hnews hone
      go_wp2
      exact⟨⟨j+1,svs++[.slice ax R.length cx],by omega,by go_num,by rw [HRN.out];exact hGn,hb6⟩,by simp [intOf];omega⟩
   ·have he':(L.getD j 0 != (j:Int))=true:=by simpa using he
    have HRN:Hid (rcAt L N (j+1)=rcAt L N j):=by rw [Hid,HRC.out,if_neg he]
    clear HRC he
    generalize L.getD j 0=a at *
    go_wp2
    exact⟨⟨j+1,svs,by omega,by go_num,by rw [HRN.out];exact hGr,hb⟩,by simp [intOf];omega⟩
  ·obtain rfl:j=N:=by omega
   have hjl:¬ (j:Int)<(j:Int):=by omega
   go_wp2
   go_ret
   rw [HL.out]
   exact⟨_,rfl,⟨svs,_,hGr⟩,hbw⟩
end Go.Proofs.YtalflecmadacaaaGreat
