import Derived.Test.YtalflecmadacaaaGreatZAQ
import Derived.Test.YtalflecmadacaaaGreatZAA
import Derived.Test.YtalflecmadacaaaGreatZAP
import Derived.Deep.QuietTactic
import Derived.BigQuiet
set_option maxRecDepth 100000
set_option maxHeartbeats 8000000
namespace Go.Proofs.YtalflecmadacaaaGreat
open Go Go.Proofs Go.RowKit
def isAt (L:List Eg)(v i:Nat):Bool:=match L[i]? with
 | some e=>decide ((e.1=v∨e.2.1=v)∧e.1≠e.2.1)
 | none=>false
def plW (L:List Eg)(k v:Nat):List Nat:=(List.range k).filter (isAt L v)
theorem Qix {L:List Eg}{k:Nat}(h:k<L.length)(v:Nat):plW L (k+1) v=if (L[k].1=v∨L[k].2.1=v)∧L[k].1≠L[k].2.1 then plW L k v++[k] else plW L k v:=by
 unfold plW
 rw [List.range_succ,List.filter_append]
 have e:isAt L v k=decide ((L[k].1=v∨L[k].2.1=v)∧L[k].1≠L[k].2.1):=by unfold isAt;rw [YB h]
 by_cases c:(L[k].1=v∨L[k].2.1=v)∧L[k].1≠L[k].2.1
 ·rw [if_pos c,List.filter_cons,e,decide_eq_true c];rfl
 ·rw [if_neg c,List.filter_cons,e,decide_eq_false c];simp
theorem QhD (L:List Eg)(k v:Nat):(plW L k v).length≤k:=by
 unfold plW
 exact Nat.le_trans (List.length_filter_le _ _) (by simp)
theorem mem_plW {L:List Eg}{k v i:Nat}:i∈plW L k v↔i<k∧isAt L v i=true:=by simp [plW]
def atW (N:Nat)(L:List Eg)(k:Nat):List (List Int):=(List.range N).map fun v=>(plW L k v).map fun (i:Nat)=>(i:Int)
theorem Qdz (N:Nat)(L:List Eg)(k:Nat):(atW N L k).length=N:=by simp [atW]
theorem Qg7 {N:Nat}{L:List Eg}{k v:Nat}(h:v<N):(atW N L k)[v]? = some ((plW L k v).map fun (i:Nat)=>(i:Int)):=by simp [atW,h]
theorem Qf4 (N:Nat)(L:List Eg):atW N L 0=List.replicate N []:=by
 unfold atW
 rw [List.eq_replicate_iff]
 simp [plW]
theorem QnO {N:Nat}{L:List Eg}{k:Nat}(h:k<L.length)(hl:L[k].1=L[k].2.1):atW N L (k+1)=atW N L k:=by
 unfold atW
 apply List.map_congr_left
 intro v _
 rw [Qix h,if_neg (fun c=>c.2 hl)]
theorem QnN {N:Nat}{L:List Eg}{k:Nat}(h:k<L.length)(hl:L[k].1≠L[k].2.1)(hu:L[k].1<N)(hv:L[k].2.1<N):
  ((atW N L k).set L[k].1 (((plW L k L[k].1).map fun (i:Nat)=>(i:Int))++[(k:Int)])).set L[k].2.1 (((plW L k L[k].2.1).map fun (i:Nat)=>(i:Int))++[(k:Int)])=atW N L (k+1):=by
 apply List.ext_getElem?
 intro i
 by_cases hi:i<N
 ·rw [Qg7 hi,List.getElem?_set,List.getElem?_set,Qg7 hi]
  simp only [List.length_set,Qdz]
  rw [Qix h]
  by_cases h1:L[k].2.1=i
  ·subst h1
   rw [if_pos rfl,if_pos hv,if_pos ⟨.inr rfl,hl⟩]
   simp
  ·rw [if_neg h1]
   by_cases h2:L[k].1=i
   ·subst h2
    rw [if_pos rfl,if_pos hu,if_pos ⟨.inl rfl,hl⟩]
    simp
   ·rw [if_neg h2,if_neg (fun c=>by rcases c.1 with c | c;exact h2 c;exact h1 c)]
 ·rw [YL (by simp [Qdz];omega),YL (by rw [Qdz];omega)]
theorem Edges.eg {w:World}{p:Option Addr}{c:Nat}{L:List Eg}(h:Edges w.heap.size w (.slice p L.length c) (L.map edE)){j:Nat}(hj:j<L.length):
  ∃ b off,p=some ⟨b,off,none⟩∧b<w.heap.size∧L.length≤c ∧
   ∀ W',Below w.heap.size w W'→∀ i (hi:i<L.length),W'.cell? ⟨b,off+i*3,none⟩=some (.int .i64 (L[i].1:Int))∧W'.cell? ⟨b,off+i*3+1,none⟩=some (.int .i64 (L[i].2.1:Int))∧W'.cell? ⟨b,off+i*3+2,none⟩=some (.int .i64 (L[i].2.2:Int)):=by
 have hlen:(L.map edE).length=L.length:=by simp
 have h':Edges w.heap.size w (.slice p (L.map edE).length c) (L.map edE):=by rw [hlen];exact h
 obtain⟨b,off,h1,h2,h3,h4,-⟩:=h'.open (j:=j) (by rw [hlen];exact hj)
 refine⟨b,off,h1,h2,by rw [← hlen];exact h3,fun W' hW i hi=>?_⟩
 have h5:=h4 W' hW i (by rw [hlen];exact hi)
 simpa [edE] using h5
theorem Edges.lenG {n:Nat}{W:World}{sv:Value}{L:List Eg}(h:Edges n W sv (L.map edE)):∃ p c,sv = .slice p L.length c:=by
 obtain⟨p,c,h1⟩:=h.len
 exact⟨p,c,by simpa using h1⟩
theorem QlL:(Tryz.prog.info? 3).map (fun i=>(i.zero,i.size,i.bytes))=some (some (.int .i64 0),1,8):=by kernel_rfl
theorem Qfe (n:Nat):(madeCells (Value.int .i64 0).cells (n*1)).toList=(List.replicate n (0:Int)).map (Value.int .i64):=by
 apply List.ext_getElem
 ·simp [madeCells]
 ·intro i h1 h2
  simp [madeCells,Value.cells,Nat.mod_one]
theorem Qcr {e:TypeId}{z:Value}{k b:Nat}(h:(Tryz.prog.info? e).map (fun i=>(i.zero,i.size,i.bytes))=some (some z,k,b)):∃ i,Tryz.prog.info? e=some i∧i.zero=some z∧i.size=k∧i.bytes=b:=by
 cases hi:Tryz.prog.info? e with
 | none=>rw [hi] at h;cases h
 | some i=>
  rw [hi] at h
  simp only [Option.map_some,Option.some.injEq,Prod.mk.injEq] at h
  exact⟨i,rfl,h.1,h.2.1,h.2.2⟩
theorem Qab {A B:World}(hb:Below A.heap.size A B){a:Addr}{v:Value}(h:A.cell? a=some v):B.cell? a=some v:=(hb.cell (World.block_lt_of_cell? A a h)).trans h
def Few (N:Nat)(dl:List Int)(m:Nat):Prop:=dl.length=N∧∀ x∈dl,0≤x∧x≤(m:Int)
theorem Few.at {N m:Nat}{dl:List Int}(h:Few N dl m){v:Nat}(hv:v<N):∃ x,dl[v]? = some x∧0≤x∧x≤(m:Int):=by
 have:v<dl.length:=by rw [h.1];exact hv
 exact⟨dl[v],YB this,h.2 _ (YG this)⟩
theorem Few.set {N m:Nat}{dl:List Int}(h:Few N dl m)(v:Nat){y:Int}(h0:0≤y)(h1:y≤((m+1:Nat):Int)):Few N (dl.set v y) (m+1):=by
 refine⟨by simp [h.1],fun x hx=>?_⟩
 rcases List.mem_or_eq_of_mem_set hx with hx | rfl
 ·have:=h.2 x hx;omega
 ·exact⟨h0,h1⟩
theorem Qh5 (N:Nat)(L:List Eg)(hn1:N≤1048576)(hm1:L.length≤4194304)(hE:∀ e∈L,e.1<N∧e.2.1<N)(sv:Value)(w:World)(hl:Edges w.heap.size w sv (L.map edE)):
  Calls Tryz.prog 155 #[.agg #[.int .i64 (N:Int),sv]] w fun r w'=>∃ (h0:Nat) (svs:List Value),r = .returned (.slice (some ⟨h0,0,none⟩) N N)∧w.heap.size≤h0∧GrpT h0 (.slice (some ⟨h0,0,none⟩) N N) svs (atW N L L.length) w'∧Below w.heap.size w w':=by
 have hg1:Grew w (w.alloc (.cells #[.int .i64 (N:Int),sv] 24)):=(Grew.refl w).alloc _
 obtain⟨p,c,rfl⟩:=hl.lenG
 obtain⟨i0,hi,hz0,hz1,hz2⟩:=Qcr QlL
 obtain⟨j0,ki,kz0,kz1,kz2⟩:=Qcr QlH
 have hbox2:=box2 (w:=w) (x:=.int .i64 (N:Int)) (y:=.slice p L.length c) (t:=24)
 have hx0:=(hbox2 _ (Grew.refl _)).1
 have hx1:=(hbox2 _ (Grew.refl _)).2
 have hs1:(w.alloc (.cells #[.int .i64 (N:Int),.slice p L.length c] 24)).heap.size=w.heap.size+1:=by simp
 have hb1:Below w.heap.size w (w.alloc (.cells #[.int .i64 (N:Int),.slice p L.length c] 24)):=hg1.below
 have hX1:Blk 24 (w.alloc (.cells #[.int .i64 (N:Int),.slice p L.length c] 24)) w.heap.size [.int .i64 (N:Int),.slice p L.length c]:=heap_alloc_new w _
 generalize hw1:w.alloc (.cells #[.int .i64 (N:Int),.slice p L.length c] 24)=w1 at hx0 hx1 hs1 hb1 hX1
 go_enter Tryz.func155,Tryz.ntmps155
 go_wp2_with (at_make;refine wpList_make_full _ rfl _ _ 27 rfl (w.heap.size+1) 3 i0 (.int .i64 0) 1 Tryz.underlying27 hi hz0 hz1 .i64 .i64 _ _ N rfl rfl rfl rfl (by rw [hz2];omega) (by unfold maxLen;omega) (by omega) ?_;rw [hs1];intro w3 hown hgrow;have hb3:Below (w.heap.size+1) w1 w3:=YD.grown hgrow (by omega) (fun k e=>by cases e);have x0:=(hX1.below hb3 (by omega)).cell (j:=0) rfl;have x1:=(hX1.below hb3 (by omega)).cell (j:=1) rfl)
 have hrow:=Blk.made hown
 rw [Qfe] at hrow
 have hfew0:Few N (List.replicate N 0) 0:=⟨by simp,fun x hx=>by rw [(List.mem_replicate.1 hx).2];simp⟩
 have hsz3:w.heap.size+1<w3.heap.size:=hrow.lt
 have hX3:=hX1.below hb3 (by omega)
 have hbw3:Below w.heap.size w w3:=hb1.trans (hb3.mono (by omega))
 clear hown hgrow hb3 hx0 hx1 hbox2 hg1 hw1
 generalize List.replicate N (0:Int)=dl0 at hrow hfew0
 obtain⟨g,hgg⟩:∃ g,w.heap.size+1=g:=⟨_,rfl⟩
 rw [hgg] at hrow hsz3 ⊢
 have HGG:Hid _:=hgg
 clear hgg
 go_loopw [17] (fun i wr=>∃ (j:Nat) (dl:List Int),j≤L.length∧i = .int .i64 j∧Few N dl (2*j)∧Blk 3 wr g (dl.map (Value.int .i64))∧Blk 24 wr w.heap.size [.int .i64 (N:Int),.slice p L.length c]∧Below w.heap.size w wr) (fun i _=>L.length-(intOf i).toNat)
 case atStart=>exact⟨0,dl0,YN,rfl,hfew0,hrow,hX3,hbw3⟩
 case round=>
  obtain⟨j,dl,hj,rfl,hF,hB,hX,hb⟩:=hrel
  have hgl:=hB.lt
  have x0:=hX.cell (j:=0) rfl
  have x1:=hX.cell (j:=1) rfl
  by_cases hlt:j<L.length
  ·obtain⟨b,off,rfl,hbb,hcap,hc⟩:=hl.eg hlt
   obtain⟨c0,c1,c2⟩:=hc wr hb j hlt
   have hjl:(j:Int)<(L.length:Int):=by omega
   obtain⟨huN,hvN⟩:=hE L[j] (YG hlt)
   generalize L[j].1=u at c0 huN
   generalize L[j].2.1=v at c1 hvN
   generalize (L[j].2.2:Int)=z at c2
   have huN':(u:Int)<(N:Int):=by omega
   have hvN':(v:Int)<(N:Int):=by omega
   obtain⟨du,hdu,du0,du1⟩:=hF.at huN
   obtain⟨dv,hdv,dv0,dv1⟩:=hF.at hvN
   have t0:wr.cell? ⟨g,u,none⟩=some (.int .i64 du):=hB.cell (by rw [YH,hdu];rfl)
   have t1:wr.cell? ⟨g,v,none⟩=some (.int .i64 dv):=hB.cell (by rw [YH,hdv];rfl)
   have f0:=hB.frozen u
   have f1:=hB.frozen v
   have hbg:b≠g:=by have:=HGG.out;omega
   have hd2:du≤8388608:=by omega
   have hd3:dv≤8388608:=by omega
   by_cases huv:u=v
   ·subst huv
    have hdd:du=dv:=by rw [hdu] at hdv;exact Option.some.inj hdv
    subst hdd
    have hBn:=(hB.set u (.int .i64 (du+1))).set u (.int .i64 (du+1+1))
    rw [← List.map_set,← List.map_set] at hBn
    have hFn:=(hF.set u (y:=du+1) (by omega) (by omega)).set u (y:=du+1+1) (by omega) (by omega)
    have hXn:=(hX.other (p:=⟨g,u,none⟩) (by have:=HGG.out;simp only;omega) (.int .i64 (du+1))).other (p:=⟨g,u,none⟩) (by have:=HGG.out;simp only;omega) (.int .i64 (du+1+1))
    have hbn:=(hb.setCell (p:=⟨g,u,none⟩) (by have:=HGG.out;simp only;omega) (.int .i64 (du+1))).setCell (p:=⟨g,u,none⟩) (by have:=HGG.out;simp only;omega) (.int .i64 (du+1+1))
    clear hc hdu hdv
    have hal:∀ W:World,Below W.heap.size W (W.alloc (.cells #[.int .i64 (u:Int),.int .i64 (u:Int),.int .i64 z] 50)):=fun W=>YD.alloc YA _
    go_wp2
    exact⟨⟨j+1,_,by omega,by go_num,hFn,hBn.go (hal _),hXn.go (hal _),hbn.trans ((hal _).mono hbn.size)⟩,by simp [intOf];omega⟩
   ·have hvu:¬ v=u:=fun e=>huv e.symm
    have hBn:=(hB.set u (.int .i64 (du+1))).set v (.int .i64 (dv+1))
    rw [← List.map_set,← List.map_set] at hBn
    have hFn:=(hF.set u (y:=du+1) (by omega) (by omega)).set v (y:=dv+1) (by omega) (by omega)
    have hXn:=(hX.other (p:=⟨g,u,none⟩) (by have:=HGG.out;simp only;omega) (.int .i64 (du+1))).other (p:=⟨g,v,none⟩) (by have:=HGG.out;simp only;omega) (.int .i64 (dv+1))
    have hbn:=(hb.setCell (p:=⟨g,u,none⟩) (by have:=HGG.out;simp only;omega) (.int .i64 (du+1))).setCell (p:=⟨g,v,none⟩) (by have:=HGG.out;simp only;omega) (.int .i64 (dv+1))
    clear hc hdu hdv
    have hal:∀ W:World,Below W.heap.size W (W.alloc (.cells #[.int .i64 (u:Int),.int .i64 (v:Int),.int .i64 z] 50)):=fun W=>YD.alloc YA _
    go_wp2
    exact⟨⟨j+1,_,by omega,by go_num,hFn,hBn.go (hal _),hXn.go (hal _),hbn.trans ((hal _).mono hbn.size)⟩,by simp [intOf];omega⟩
  ·obtain rfl:j=L.length:=by omega
   clear hrow hfew0 hX3 hbw3 hX1 hb1 hs1
   have hFl:=hF.1
   go_wp2_with (at_make;refine wpList_make_full _ rfl _ _ 35 rfl wr.heap.size 27 j0 (.slice none 0 0) 1 Tryz.underlying35 ki kz0 kz1 .i64 .i64 _ _ N rfl rfl rfl rfl (by rw [kz2];omega) (by unfold maxLen;omega) YA ?_;intro w4 hown hgrow;have hb4:Below wr.heap.size wr w4:=YD.grown hgrow YA (fun k e=>by cases e))
   have hGr:=GrpT.made hown
   rw [← Qf4 N L] at hGr
   have hB4:=hB.go hb4
   have hX4:=hX.go hb4
   have hb40:=hb.trans (hb4.mono hb.size)
   have hsz4:wr.heap.size<w4.heap.size:=(hown.lt wr.heap.size rfl).2
   clear hown hgrow hB hX hb hb4 x0 x1
   have hX0:w.heap.size<wr.heap.size:=by have:=HGG.out;omega
   generalize wr.heap.size=h0 at *
   generalize List.replicate N (Value.slice none 0 0)=svs0 at hGr
   go_loopw [41] (fun i wq=>∃ (k:Nat) (svs:List Value),k≤N∧i = .int .i64 k∧GrpT h0 (.slice (some ⟨h0,0,none⟩) N N) svs (atW N L 0) wq∧Below h0 w4 wq) (fun i _=>N-(intOf i).toNat)
   case atStart=>exact⟨0,svs0,YN,rfl,hGr,YD⟩
   case round=>
    clear hGr
    obtain⟨k,svs,hk,rfl,hGr,hbq⟩:=hrel
    have hsvl:svs.length=N:=hGr.len.trans (Qdz _ _ _)
    by_cases hkN:k<N
    ·have hkN':(k:Int)<(N:Int):=by omega
     obtain⟨dx,hdx,d0,d1⟩:=hF.at hkN
     have t0:wr.cell? ⟨g,k,none⟩=some (.int .i64 dx):=(hB4.below hbq hgl).cell (by rw [YH,hdx];rfl)
     have hqs:=hbq.size
     have hszq:h0≤wr.heap.size:=by omega
     obtain⟨sv0,hsv0⟩:∃ sv0,svs[k]? = some sv0:=⟨_,YB (by omega)⟩
     have HSV:Hid _:=hsvl
     go_wp2_with (at_make;refine wpList_make_own _ rfl _ _ 27 rfl wr.heap.size 3 i0 (.int .i64 0) 1 Tryz.underlying27 hi hz0 hz1 .i64 .i64 _ dx.toNat rfl rfl (by rw [Int.toNat_of_nonneg d0]) (by rw [hz2];omega) (by unfold maxLen;omega) YA ?_;intro w6 hown6 hgrow6;have hb6:Below wr.heap.size wr w6:=YD.grown hgrow6 YA (fun k e=>by cases e);have hlv6:=Qaq hGr.own hb6;rw [hsvl] at hlv6;have o1:w6.cell? ⟨h0,k,none⟩=some sv0:=(hlv6.cellAt k (by omega)).trans hsv0;have f1:=hlv6.frozenAt k)
     have hput:=GrpT.put (xs:=[]) (k:=k) (by rw [hsvl];exact hGr) (by omega) hszq hb6 hown6
     rw [hsvl,Qf4] at hput
     have hrep:(List.replicate N ([]:List Int)).set k []=List.replicate N []:=by
      apply List.ext_getElem?
      intro q
      rw [List.getElem?_set]
      split
      ·rename_i e;subst e;simp [hkN]
      ·rfl
     rw [hrep,← Qf4 N L] at hput
     refine⟨⟨k+1,_,by omega,by go_num,hput,?_⟩,by simp [intOf];omega⟩
     exact (hbq.trans (hb6.mono hszq)).setCell (p:=⟨h0,k,none⟩) YA _
    ·obtain rfl:N=k:=by omega
     have hbq0:Below w.heap.size w wr:=hb40.trans (hbq.mono (by omega))
     have hXq:=hX4.below hbq (by omega)
     have hszq:h0<wr.heap.size:=by have:=hbq.size;omega
     have x0:=hXq.cell (j:=0) rfl
     have x1:=hXq.cell (j:=1) rfl
     go_wp2
     generalize wr=w5 at *
     go_loopw [55] (fun i wr=>∃ (q:Nat) (svs:List Value),q≤L.length∧i = .int .i64 q∧GrpT h0 (.slice (some ⟨h0,0,none⟩) N N) svs (atW N L q) wr∧Below h0 w5 wr) (fun i _=>L.length-(intOf i).toNat)
     case atStart=>exact⟨0,svs,YN,rfl,hGr,YD⟩
     case round=>
      clear hGr hsvl x0 x1
      obtain⟨q,svs,hq,rfl,hGr,hb⟩:=hrel
      have hbwr:Below w.heap.size w wr:=hbq0.trans (hb.mono (by omega))
      have hszr:h0<wr.heap.size:=by have:=hb.size;omega
      have hXr:=hXq.below hb (by omega)
      have x0:=hXr.cell (j:=0) rfl
      have x1:=hXr.cell (j:=1) rfl
      by_cases hlt:q<L.length
      ·obtain⟨b,off,rfl,hbb,hcap,hc⟩:=hl.eg hlt
       obtain⟨c0,c1,c2⟩:=hc wr hbwr q hlt
       have hql:(q:Int)<(L.length:Int):=by omega
       obtain⟨huN,hvN⟩:=hE L[q] (YG hlt)
       have hsvl:svs.length=N:=hGr.len.trans (Qdz _ _ _)
       clear hc
       by_cases huv:L[q].1=L[q].2.1
       ·have HST:Hid _:=QnO (N:=N) hlt huv
        rw [← huv] at c1
        generalize L[q].1=u at c0 c1 huN
        generalize (L[q].2.2:Int)=z at c2
        have hal:Below wr.heap.size wr (wr.alloc (.cells #[.int .i64 (u:Int),.int .i64 (u:Int),.int .i64 z] 50)):=YD.alloc YA _
        clear huv hvN
        go_wp2
        exact⟨⟨q+1,svs,by omega,by go_num,by rw [HST.out];exact hGr.go hal,hb.trans (hal.mono (by omega))⟩,by simp [intOf];omega⟩
       ·have HST:Hid _:=QnN (N:=N) hlt huv huN hvN
        have HPU:Hid _:=Qg7 (L:=L) (k:=q) huN
        have HPV:Hid _:=Qg7 (L:=L) (k:=q) hvN
        have hxu:((plW L q L[q].1).map fun (i:Nat)=>(i:Int)).length≤4194304:=by have:=QhD L q L[q].1;simp only [List.length_map];omega
        have hxv:((plW L q L[q].2.1).map fun (i:Nat)=>(i:Int)).length≤4194304:=by have:=QhD L q L[q].2.1;simp only [List.length_map];omega
        generalize ((plW L q L[q].1).map fun (i:Nat)=>(i:Int))=xu at HPU HST hxu
        generalize ((plW L q L[q].2.1).map fun (i:Nat)=>(i:Int))=xv at HPV HST hxv
        generalize L[q].1=u at c0 huN huv HPU HST
        generalize L[q].2.1=v at c1 hvN huv HPV HST
        generalize (L[q].2.2:Int)=z at c2
        have huv':¬ (u:Int)=(v:Int):=by omega
        have HPV2:Hid (((atW N L q).set u (xu++[(q:Int)]))[v]? = some xv):=by
         unfold Hid
         rw [List.getElem?_set_ne huv];exact HPV.out
        generalize atW N L q=pre at hGr HPU HPV HPV2 HST
        have huN':(u:Int)<(N:Int):=by omega
        have hvN':(v:Int)<(N:Int):=by omega
        have hal:Below wr.heap.size wr (wr.alloc (.cells #[.int .i64 (u:Int),.int .i64 (v:Int),.int .i64 z] 50)):=YD.alloc YA _
        have hGB:=hGr.go hal
        have hbB:=hb.trans (hal.mono (by omega))
        have hXB:Blk 50 (wr.alloc (.cells #[.int .i64 (u:Int),.int .i64 (v:Int),.int .i64 z] 50)) wr.heap.size [.int .i64 (u:Int),.int .i64 (v:Int),.int .i64 z]:=heap_alloc_new wr _
        go_wp2_with fail
        clear x0 x1 c0 c1 c2 hal
        obtain⟨bb,HBB⟩:∃ bb,Hid (wr.heap.size=bb):=⟨_,show Hid _ from rfl⟩
        rw [HBB.out] at hXB ⊢
        have hh0:h0<bb:=by have:=HBB.out;omega
        generalize wr.alloc (.cells #[.int .i64 (u:Int),.int .i64 (v:Int),.int .i64 z] 50)=wB at *
        obtain⟨sx1,hs1⟩:∃ sx,svs[u]? = some sx:=⟨_,YB (by omega)⟩
        obtain⟨px1,cx1,rfl⟩:=Qan (hGr.inn u sx1 _ hs1 HPU.out)
        have hsx1:(svs)[u]? = some (.slice px1 xu.length cx1):=hs1
        have hbl1:∀ m,(Value.slice px1 xu.length cx1).ownBlock=some m→h0≤m∧m<bb:=fun m hm=>by have:=(hGr.inn u _ _ hs1 HPU.out).lt m hm;have:=HBB.out;omega
        have hsl1:(svs).length=N:=hsvl
        have r1:wB.cell? ⟨h0,u,none⟩=some (.slice px1 xu.length cx1):=by
         have hrow:=hGB.own
         rw [hsl1] at hrow
         exact (hrow.cellAt u (by omega)).trans hsx1
        have b1:wB.cell? ⟨bb,0,none⟩=some (.int .i64 (u:Int)):=hXB.cell (j:=0) rfl
        have hmx1:xu.length+1≤maxLen:=by unfold maxLen;omega
        have hby1:(xu.length+1)*8≤140737488355328:=by omega
        refine Qai (S:=(fun w':World=>w'.cell? ⟨bb,0,none⟩=some (.int .i64 (u:Int))∧w'.cell? ⟨h0,u,none⟩=some (.slice px1 xu.length cx1))) (by kernel_rfl) ?_ (fun hHeld=>?_)
        ·(try dsimp only);go_keep
        refine tL 0 ?_
        try simp only [YS]
        refine tL 1 ?_
        refine tL 2 ?_
        refine tL 3 ?_
        refine tL 4 ?_
        refine tL 5 ?_
        refine tL 6 ?_
        refine tL 7 ?_
        refine tL 8 ?_
        have hbd1:Below wB.heap.size wB wB.drew:=Qaa YD 1
        have hsW1:bb<wB.heap.size:=hXB.lt
        have hGd1:=hGB.go hbd1
        have hXd1:=hXB.go hbd1
        have hsd1:bb<wB.drew.heap.size:=hXd1.lt
        clear b1 r1
        generalize wB.drew=wd1 at *
        have hbA1:Below wd1.heap.size wd1 (wd1.alloc (.cells #[.int .i64 (q:Int)] 3)):=YD.alloc YA _
        have hownA:=(hGd1.go hbA1).inn u _ _ hsx1 HPU.out
        have hnw:Src (wd1.alloc (.cells #[.int .i64 (q:Int)] 3)) (.slice (some ⟨wd1.heap.size,0,none⟩) 1 1) 1 1 [.int .i64 (q:Int)]:=.inr ⟨⟨wd1.heap.size,0,none⟩,1,rfl,rfl,Qbi wd1 (.int .i64 (q:Int)) 3,fun z hz=>by rw [YF hz];rfl⟩
        have hsA:h0≤(wd1.alloc (.cells #[.int .i64 (q:Int)] 3)).heap.size:=by simp only [World.size_alloc];omega
        refine Qac (rs:=[9]) (by kernel_rfl) (by simp) ?_
        refine AllReadyL.cons rfl (fun K hK=>?_) AllReadyL.nil
        go_simp
        refine hK.out _ _ ⟨Qab hbA1 hHeld.1,Qab hbA1 hHeld.2⟩ (fun hHeld12=>?_)
        clear hK K
        try simp only [Act.put,YS,YT,YU]
        refine Qac (rs:=[10]) (by kernel_rfl) (by simp) ?_
        refine AllReadyL.cons rfl (fun K hK=>?_) AllReadyL.nil
        refine Qap rfl _ _ 27 rfl h0 3 i0 (.int .i64 0) 1 8 Tryz.underlying27 hi hz0 hz1 hz2 rfl (by decide) (.slice px1 xu.length cx1) xu.length (xu.map (Value.int .i64)) rfl hownA (.slice (some ⟨wd1.heap.size,0,none⟩) 1 1) 1 [.int .i64 (q:Int)] rfl hnw hmx1 hby1 hsA ?_
        intro v8 w12 ho8 hg8 hat8
        obtain⟨a1,c1,rfl⟩:=Qan ho8
        obtain⟨c12,f12,hG1⟩:=GrpT.pushed hGd1 hsl1 hsx1 HPU.out ho8 hg8 hat8
        have hb12:Below h0 wd1 (w12.setCell ⟨h0,u,none⟩ (.slice a1 (xu.length+1) c1)):=((YD.alloc (by omega) _).grown hg8 hsA (fun m hm=>(hbl1 m hm).1)).setCell (p:=⟨h0,u,none⟩) YA _
        have hX12:Blk 50 w12 bb [.int .i64 (u:Int),.int .i64 (v:Int),.int .i64 z]:=(hg8.block bb (by simp only [World.size_alloc];omega) (fun e=>by have:=hbl1 bb e.symm;omega)).trans (hXd1.go hbA1)
        have b12:w12.cell? ⟨bb,0,none⟩=some (.int .i64 (u:Int)):=hX12.cell (j:=0) rfl
        refine hK.out _ _ ⟨b12,c12⟩ (fun hHeld13=>?_)
        clear hK K
        try simp only [Act.put,YS]
        have hX1:Blk 50 (w12.setCell ⟨h0,u,none⟩ (.slice a1 (xu.length+1) c1)) bb [.int .i64 (u:Int),.int .i64 (v:Int),.int .i64 z]:=hX12.other (p:=⟨h0,u,none⟩) (by simp only;omega) _
        have hb1:Below h0 w5 (w12.setCell ⟨h0,u,none⟩ (.slice a1 (xu.length+1) c1)):=(hbB.trans (hbd1.mono (by omega))).trans hb12
        clear hownA hnw hHeld12 hHeld ho8 hg8 hat8 hGd1 hXd1 hbA1 hbd1 hb12 hX12
        refine tL 11 ?_
        refine Qac (rs:=[12]) (by kernel_rfl) (by simp) ?_
        refine AllReadyL.last rfl (by kernel_rfl) (fun K hK=>?_)
        go_simp
        refine hK.out _ _ ?_
        clear hK K
        try simp only [Act.put,YS,YT,YU]
        refine Qak (by kernel_rfl) ?_ _
        clear c12 f12 b12 hHeld13
        generalize w12.setCell ⟨h0,u,none⟩ (.slice a1 (xu.length+1) c1)=wx1 at *
        clear hGB hXB hbB
        obtain⟨sx2,hs2⟩:∃ sx,svs[v]? = some sx:=⟨_,YB (by omega)⟩
        obtain⟨px2,cx2,rfl⟩:=Qan (hGr.inn v sx2 _ hs2 HPV.out)
        have hsx2:((svs.set u (.slice a1 (xu.length+1) c1)))[v]? = some (.slice px2 xv.length cx2):=by rw [List.getElem?_set_ne huv];exact hs2
        have hbl2:∀ m,(Value.slice px2 xv.length cx2).ownBlock=some m→h0≤m∧m<bb:=fun m hm=>by have:=(hGr.inn v _ _ hs2 HPV.out).lt m hm;have:=HBB.out;omega
        have hsl2:((svs.set u (.slice a1 (xu.length+1) c1))).length=N:=by simp only [List.length_set];exact hsvl
        have r2:wx1.cell? ⟨h0,v,none⟩=some (.slice px2 xv.length cx2):=by
         have hrow:=hG1.own
         rw [hsl2] at hrow
         exact (hrow.cellAt v (by omega)).trans hsx2
        have b2:wx1.cell? ⟨bb,1,none⟩=some (.int .i64 (v:Int)):=hX1.cell (j:=1) rfl
        have hmx2:xv.length+1≤maxLen:=by unfold maxLen;omega
        have hby2:(xv.length+1)*8≤140737488355328:=by omega
        go_wp2_with fail
        refine Qai (S:=(fun w':World=>w'.cell? ⟨bb,1,none⟩=some (.int .i64 (v:Int))∧w'.cell? ⟨h0,v,none⟩=some (.slice px2 xv.length cx2))) (by kernel_rfl) ?_ (fun hHeld=>?_)
        ·(try dsimp only);go_keep
        refine tL 0 ?_
        try simp only [YS]
        refine tL 1 ?_
        refine tL 2 ?_
        refine tL 3 ?_
        refine tL 4 ?_
        refine tL 5 ?_
        refine tL 6 ?_
        refine tL 7 ?_
        refine tL 8 ?_
        have hbd2:Below wx1.heap.size wx1 wx1.drew:=Qaa YD 1
        have hsW2:bb<wx1.heap.size:=hX1.lt
        have hGd2:=hG1.go hbd2
        have hXd2:=hX1.go hbd2
        have hsd2:bb<wx1.drew.heap.size:=hXd2.lt
        clear b2 r2
        generalize wx1.drew=wd2 at *
        have hbA2:Below wd2.heap.size wd2 (wd2.alloc (.cells #[.int .i64 (q:Int)] 3)):=YD.alloc YA _
        have hownA:=(hGd2.go hbA2).inn v _ _ hsx2 HPV2.out
        have hnw:Src (wd2.alloc (.cells #[.int .i64 (q:Int)] 3)) (.slice (some ⟨wd2.heap.size,0,none⟩) 1 1) 1 1 [.int .i64 (q:Int)]:=.inr ⟨⟨wd2.heap.size,0,none⟩,1,rfl,rfl,Qbi wd2 (.int .i64 (q:Int)) 3,fun z hz=>by rw [YF hz];rfl⟩
        have hsA:h0≤(wd2.alloc (.cells #[.int .i64 (q:Int)] 3)).heap.size:=by simp only [World.size_alloc];omega
        refine Qac (rs:=[9]) (by kernel_rfl) (by simp) ?_
        refine AllReadyL.cons rfl (fun K hK=>?_) AllReadyL.nil
        go_simp
        refine hK.out _ _ ⟨Qab hbA2 hHeld.1,Qab hbA2 hHeld.2⟩ (fun hHeld12=>?_)
        clear hK K
        try simp only [Act.put,YS,YT,YU]
        refine Qac (rs:=[10]) (by kernel_rfl) (by simp) ?_
        refine AllReadyL.cons rfl (fun K hK=>?_) AllReadyL.nil
        refine Qap rfl _ _ 27 rfl h0 3 i0 (.int .i64 0) 1 8 Tryz.underlying27 hi hz0 hz1 hz2 rfl (by decide) (.slice px2 xv.length cx2) xv.length (xv.map (Value.int .i64)) rfl hownA (.slice (some ⟨wd2.heap.size,0,none⟩) 1 1) 1 [.int .i64 (q:Int)] rfl hnw hmx2 hby2 hsA ?_
        intro v8 w12 ho8 hg8 hat8
        obtain⟨a2,c2,rfl⟩:=Qan ho8
        obtain⟨c12,f12,hG2⟩:=GrpT.pushed hGd2 hsl2 hsx2 HPV2.out ho8 hg8 hat8
        have hb12:Below h0 wd2 (w12.setCell ⟨h0,v,none⟩ (.slice a2 (xv.length+1) c2)):=((YD.alloc (by omega) _).grown hg8 hsA (fun m hm=>(hbl2 m hm).1)).setCell (p:=⟨h0,v,none⟩) YA _
        have hX12:Blk 50 w12 bb [.int .i64 (u:Int),.int .i64 (v:Int),.int .i64 z]:=(hg8.block bb (by simp only [World.size_alloc];omega) (fun e=>by have:=hbl2 bb e.symm;omega)).trans (hXd2.go hbA2)
        have b12:w12.cell? ⟨bb,1,none⟩=some (.int .i64 (v:Int)):=hX12.cell (j:=1) rfl
        refine hK.out _ _ ⟨b12,c12⟩ (fun hHeld13=>?_)
        clear hK K
        try simp only [Act.put,YS]
        have hX2:Blk 50 (w12.setCell ⟨h0,v,none⟩ (.slice a2 (xv.length+1) c2)) bb [.int .i64 (u:Int),.int .i64 (v:Int),.int .i64 z]:=hX12.other (p:=⟨h0,v,none⟩) (by simp only;omega) _
        have hb2:Below h0 w5 (w12.setCell ⟨h0,v,none⟩ (.slice a2 (xv.length+1) c2)):=(hb1.trans (hbd2.mono (by omega))).trans hb12
        clear hownA hnw hHeld12 hHeld ho8 hg8 hat8 hGd2 hXd2 hbA2 hbd2 hb12 hX12
        refine tL 11 ?_
        refine Qac (rs:=[12]) (by kernel_rfl) (by simp) ?_
        refine AllReadyL.last rfl (by kernel_rfl) (fun K hK=>?_)
        go_simp
        refine hK.out _ _ ?_
        clear hK K
        try simp only [Act.put,YS,YT,YU]
        refine Qak (by kernel_rfl) ?_ _
        clear c12 f12 b12 hHeld13
        generalize w12.setCell ⟨h0,v,none⟩ (.slice a2 (xv.length+1) c2)=wx2 at *
        go_wp2
        exact⟨⟨q+1,_,by omega,by go_num,by rw [← HST.out];exact hG2,hb2⟩,by simp [intOf];omega⟩
      ·obtain rfl:q=L.length:=by omega
       go_wp2
       go_ret
       exact⟨h0,svs,rfl,by omega,hGr,hbwr⟩
theorem Vals.openW {w:World}{sv:Value}{l:List Int}(h:Ints w.heap.size w sv l):∃ p c,sv = .slice p l.length c∧∀ {j:Nat},j<l.length→∃ b off,p=some ⟨b,off,none⟩∧b<w.heap.size∧∀ W',Below w.heap.size w W'→∀ i,i<l.length→W'.cell? ⟨b,off+i,none⟩=some (.int .i64 (at' l i)):=by
 obtain⟨p,c,rfl⟩:=h.len
 refine⟨p,c,rfl,fun {j} hj=>?_⟩
 obtain⟨b,off,h1,h2,_,h4⟩:=h.open hj
 exact⟨b,off,h1,h2,fun W' hW i hi=>by rw [QbJ hi];exact h4 W' hW i hi⟩
def Qcj (L:List Eg)(place:Int)(v:Nat):Bool:=decide (0≤place) && (match L[place.toNat]? with
 | some e=>decide (e.1=v∨e.2.1=v)
 | none=>false)
theorem ends_iff {L:List Eg}{place:Int}{v:Nat}:Qcj L place v=true↔∃ i:Nat,place=i∧∃ e,L[i]? = some e∧(e.1=v∨e.2.1=v):=by
 unfold Qcj
 constructor
 ·intro h
  rw [Bool.and_eq_true] at h
  refine⟨place.toNat,by have:=h.1;simp at this;omega,?_⟩
  have h2:=h.2
  cases hL:L[place.toNat]? with
  | none=>rw [hL] at h2;simp at h2
  | some e=>rw [hL] at h2;exact⟨e,rfl,by simpa using h2⟩
 ·rintro⟨i,rfl,e,he,hv⟩
  rw [YM,he]
  simpa using hv
theorem QjV (n:Int)(L:List Eg)(place:Int)(v:Nat)(sv:Value)(w:World)(hl:Edges w.heap.size w sv (L.map edE)):
  Calls Tryz.prog 149 #[.agg #[.int .i64 n,sv],.int .i64 place,.int .i64 (v:Int)] w fun r w'=>r = .returned (.bool (Qcj L place v))∧Grew w w':=by
 obtain⟨p,c,rfl⟩:=hl.lenG
 have hg:Grew w (w.alloc (.cells #[.int .i64 n,.slice p L.length c] 24)):=(Grew.refl w).alloc _
 by_cases h0:0≤place
 ·obtain⟨i,rfl⟩:∃ i:Nat,place=i:=⟨place.toNat,by omega⟩
  by_cases h1:i<L.length
  ·obtain⟨b,off,rfl,hbb,hcap,hc⟩:=hl.eg h1
   obtain⟨c0,c1,c2⟩:=hc _ hg.below i h1
   have h1':(i:Int)<(L.length:Int):=by omega
   have hE:Qcj L (i:Int) v=(decide (L[i].1=v∨L[i].2.1=v)):=by
    unfold Qcj
    rw [YM,YB h1]
    simp
   rw [hE]
   clear hE hc hl
   generalize L[i].1=x at *
   generalize L[i].2.1=y at *
   have hE:∃ r,Hid (decide (x=v∨y=v)=r):=⟨_,show Hid _ from rfl⟩
   obtain⟨r,HR⟩:=hE
   rw [HR.out]
   by_cases hx:x=v
   ·have hR:r=true:=by rw [← HR.out];simp [hx]
    subst hR hx
    go_enter Tryz.func149,Tryz.ntmps149
    go_wp2
    go_ret
    exact⟨rfl,hg⟩
   ·have hx':¬ (x:Int)=(v:Int):=by omega
    by_cases hy:y=v
    ·have hR:r=true:=by rw [← HR.out];simp [hy]
     subst hR hy
     go_enter Tryz.func149,Tryz.ntmps149
     go_wp2
     go_ret
     exact⟨by simp,hg⟩
    ·have hR:r=false:=by rw [← HR.out];simp [hx,hy]
     have hy':¬ (y:Int)=(v:Int):=by omega
     subst hR
     go_enter Tryz.func149,Tryz.ntmps149
     go_wp2
     go_ret
     exact⟨by simp [hx',hy'],hg⟩
  ·have hE:Qcj L (i:Int) v=false:=by
    unfold Qcj
    rw [YM,YL (by omega)]
    simp
   have h1':¬ (i:Int)<(L.length:Int):=by omega
   rw [hE]
   go_enter Tryz.func149,Tryz.ntmps149
   go_wp2
   go_ret
   exact⟨by simp,hg⟩
 ·have hE:Qcj L place v=false:=by unfold Qcj;simp [h0]
  rw [hE]
  go_enter Tryz.func149,Tryz.ntmps149
  go_wp2
  go_ret
  exact⟨by simp,hg⟩
def RiseP (l:List Int)(n:Int):Prop:=(∀ x∈l,0≤x∧x<n)∧l.Pairwise (· < ·)
def rsB (l:List Int)(n:Int):Bool:=(l.all fun x=>decide (0≤x∧x<n)) && decide (l.Pairwise (· < ·))
theorem rs_iff {l:List Int}{n:Int}:rsB l n=true↔RiseP l n:=by simp [rsB,RiseP]
theorem QnX {l:List Int}{n:Int}(h:¬ RiseP l n):rsB l n=false:=by rw [← Bool.not_eq_true,rs_iff];exact h
def RIT (l:List Int)(n:Int)(k:Nat)(least:Int):Prop:=RiseP (l.take k) n∧0≤least∧(∀ x∈l.take k,x<least)∧(least=0∨∃ j,j<k∧l[j]? = some (least-1))
theorem RIT.start (l:List Int)(n:Int):RIT l n 0 0:=⟨⟨by simp,by simp⟩,Int.le_refl _,by simp,.inl rfl⟩
theorem RIT.next {l:List Int}{n:Int}{k:Nat}{least:Int}(h:RIT l n k least)(hk:k<l.length)(h1:least≤l[k])(h2:l[k]<n):RIT l n (k+1) (l[k]+1):=by
 obtain⟨⟨a,b⟩,c,d,e⟩:=h
 refine⟨⟨?_,?_⟩,by omega,?_,.inr ⟨k,by omega,by rw [YB hk];congr 1;omega⟩⟩
 ·intro x hx
  rw [List.take_succ_eq_append_getElem hk,List.mem_append] at hx
  rcases hx with hx | hx
  ·exact a x hx
  ·rw [YF hx];omega
 ·rw [List.take_succ_eq_append_getElem hk,List.pairwise_append]
  refine⟨b,by simp,fun x hx y hy=>?_⟩
  rw [YF hy]
  have:=d x hx
  omega
 ·intro x hx
  rw [List.take_succ_eq_append_getElem hk,List.mem_append] at hx
  rcases hx with hx | hx
  ·have:=d x hx;omega
  ·rw [YF hx];omega
theorem RIT.low {l:List Int}{n:Int}{k:Nat}{least:Int}(h:RIT l n k least)(hk:k<l.length)(h1:l[k]<least):rsB l n=false:=by
 refine QnX fun ⟨a,b⟩=>?_
 obtain⟨_,c,d,e⟩:=h
 rcases e with e | ⟨j,hj,e⟩
 ·have:=(a l[k] (YG hk)).1;omega
 ·obtain⟨hj',e⟩:=YE e
  have:=List.pairwise_iff_getElem.1 b j k hj' hk hj
  omega
theorem RIT.high {l:List Int}{n:Int}{k:Nat}(hk:k<l.length)(h1:n≤l[k]):rsB l n=false:=
 QnX fun ⟨a,_⟩=>by have:=(a l[k] (YG hk)).2;omega
theorem RIT.done {l:List Int}{n:Int}{least:Int}(h:RIT l n l.length least):rsB l n=true:=by
 rw [rs_iff]
 have:=h.1
 rwa [List.take_length] at this
def Qca (L:List Eg)(i:Int):Eg:=L.getD i.toNat (0,0,0)
theorem QbG {L:List Eg}{i:Nat}{e:Eg}(h:L[i]? = some e):Qca L (i:Int)=e:=by simp [Qca,h]
def tog (e:Eg)(v:Nat):Bool:=(e.1==v) ^^ (e.2.1==v)
def oddA (L:List Eg)(B:List Int)(v:Nat):Bool:=B.foldr (fun i b=>tog (Qca L i) v ^^ b) false
theorem QcU (L:List Eg)(v:Nat):oddA L [] v=false:=rfl
theorem QaI (L:List Eg)(i:Int)(B:List Int)(v:Nat):oddA L (i :: B) v=(tog (Qca L i) v ^^ oddA L B v):=rfl
theorem QhJ (L:List Eg)(A B:List Int)(v:Nat):oddA L (A++B) v=(oddA L A v ^^ oddA L B v):=by
 induction A with
 | nil=>simp [QcU]
 | cons i A ih=>rw [List.cons_append,QaI,QaI,ih,Bool.xor_assoc]
theorem QgF {L:List Eg}{A B:List Int}(h:A.Perm B)(v:Nat):oddA L A v=oddA L B v:=by
 induction h with
 | nil=>rfl
 | cons x _ ih=>rw [QaI,QaI,ih]
 | swap x y l=>rw [QaI,QaI,QaI,QaI,← Bool.xor_assoc,← Bool.xor_assoc,Bool.xor_comm (tog (Qca L y) v)]
 | trans _ _ h1 h2=>exact h1.trans h2
theorem QgE (L:List Eg)(A:List Int)(v:Nat):oddA L A.reverse v=oddA L A v:=QgF (List.reverse_perm A) v
def oddT (N:Nat)(L:List Eg)(B:List Int):List Bool:=(List.range N).map (oddA L B)
theorem Qbd (N:Nat)(L:List Eg)(B:List Int):(oddT N L B).length=N:=by simp [oddT]
theorem QoN {N:Nat}{L:List Eg}{B:List Int}{v:Nat}(h:v<N):(oddT N L B)[v]? = some (oddA L B v):=by simp [oddT,h]
theorem QmV (N:Nat)(L:List Eg):oddT N L []=List.replicate N false:=by
 apply List.ext_getElem <;> simp [oddT,QcU]
def bAt (T:List Bool)(v:Nat):Bool:=T.getD v false
theorem bAt_get? {T:List Bool}{v:Nat}(h:v<T.length):T[v]? = some (bAt T v):=by simp [bAt,h]
theorem Qpf {T:List Bool}{v:Nat}{x:Bool}(h:v<T.length)(u:Nat):bAt (T.set v x) u=if u=v then x else bAt T u:=by
 unfold bAt
 by_cases e:u=v
 ·subst e;simp [List.getD,h]
 ·rw [if_neg e];simp [List.getD,List.getElem?_set_ne (Ne.symm e)]
theorem QcT {N:Nat}{L:List Eg}{B:List Int}{v:Nat}(h:v<N):bAt (oddT N L B) v=oddA L B v:=by
 unfold bAt
 rw [YC,QoN h];rfl
theorem Qmi {A B:List Bool}(hl:A.length=B.length)(h:∀ v,v<A.length→bAt A v=bAt B v):A=B:=by
 apply List.ext_getElem hl
 intro i h1 h2
 have:=h i h1
 simpa [bAt,h1,h2] using this
def flipB (T:List Bool)(v:Nat):List Bool:=T.set v (!bAt T v)
theorem QaP (T:List Bool)(v:Nat):(flipB T v).length=T.length:=by simp [flipB]
theorem Qc7 {T:List Bool}{v:Nat}(h:v<T.length)(u:Nat):bAt (flipB T v) u=(bAt T u ^^ (v==u)):=by
 unfold flipB
 rw [Qpf h]
 by_cases e:u=v
 ·subst e;simp
 ·rw [if_neg e]
  have:(v==u)=false:=by rw [beq_eq_false_iff_ne];omega
  rw [this,Bool.xor_false]
theorem Qla {N:Nat}{L:List Eg}{B:List Int}{i:Int}(h1:(Qca L i).1<N)(h2:(Qca L i).2.1<N):flipB (flipB (oddT N L B) (Qca L i).1) (Qca L i).2.1=oddT N L (B++[i]):=by
 refine Qmi (by rw [QaP,QaP,Qbd,Qbd]) fun v hv=>?_
 rw [QaP,QaP,Qbd] at hv
 rw [Qc7 (by rw [QaP,Qbd];exact h2),Qc7 (by rw [Qbd];exact h1),QcT hv,QcT hv,QhJ,QaI,QcU,Bool.xor_false]
 unfold tog
 rw [Bool.xor_assoc]
def trueK (T:List Bool)(k:Nat):List Int:=((List.range k).filter fun i=>bAt T i).map fun i:Nat=>(i:Int)
def trueL (T:List Bool):List Int:=trueK T T.length
theorem Qde (T:List Bool)(k:Nat):trueK T (k+1)=trueK T k++if bAt T k then [(k:Int)] else []:=by
 unfold trueK
 rw [List.range_succ,List.filter_append,List.map_append]
 by_cases h:bAt T k <;> simp [h]
theorem QbY (T:List Bool)(k:Nat):(trueK T k).length≤k:=by
 unfold trueK
 rw [List.length_map]
 have:=List.length_filter_le (fun i=>bAt T i) (List.range k)
 simpa using this
theorem trueK_mem {T:List Bool}{k:Nat}{x:Int}:x∈trueK T k↔∃ i:Nat,x=i∧i<k∧bAt T i=true:=by
 unfold trueK
 simp only [List.mem_map,List.mem_filter,List.mem_range]
 constructor
 ·rintro⟨i,⟨h1,h2⟩,rfl⟩;exact⟨i,rfl,h1,h2⟩
 ·rintro⟨i,rfl,h1,h2⟩;exact⟨i,⟨h1,h2⟩,rfl⟩
theorem Qcd (T:List Bool):∀ k:Nat,(trueK T k).Pairwise (· < ·)
 | 0=>by simp [trueK]
 | k+1=>by
  rw [Qde,List.pairwise_append]
  refine⟨Qcd T k,by split <;> simp,fun x hx y hy=>?_⟩
  obtain⟨i,rfl,h1,_⟩:=trueK_mem.1 hx
  split at hy
  ·rw [YF hy];omega
  ·simp at hy
theorem trueL_mem {T:List Bool}{x:Int}:x∈trueL T↔∃ i:Nat,x=i∧i<T.length∧bAt T i=true:=trueK_mem
def plcB (m:Nat)(B:List Int):Bool:=B.all fun x=>decide (0≤x∧x<(m:Int))
theorem plc_iff {m:Nat}{B:List Int}:plcB m B=true↔∀ x∈B,0≤x∧x<(m:Int):=by simp [plcB]
def oddV (N:Nat)(L:List Eg)(B:List Int):List Int:=trueL (oddT N L B)
theorem Qir:∀ {A B:List Int},A.Pairwise (· < ·)→B.Pairwise (· < ·)→(∀ x,x∈A↔x∈B)→A=B
 | [],[],_,_,_=>rfl
 | [],b :: B,_,_,h=>absurd ((h b).2 (by simp)) (by simp)
 | a :: A,[],_,_,h=>absurd ((h a).1 (by simp)) (by simp)
 | a :: A,b :: B,ha,hb,h=>by
  rw [List.pairwise_cons] at ha hb
  have hab:a=b:=by
   have h1:=(h a).1 (by simp)
   have h2:=(h b).2 (by simp)
   rcases List.mem_cons.1 h1 with e | h1
   ·exact e
   ·rcases List.mem_cons.1 h2 with e | h2
    ·exact e.symm
    ·have:=ha.1 b h2
     have:=hb.1 a h1
     omega
  subst hab
  congr 1
  refine Qir ha.2 hb.2 fun x=>⟨fun hx=>?_,fun hx=>?_⟩
  ·have:=ha.1 x hx
   rcases List.mem_cons.1 ((h x).1 (by simp [hx])) with e | e
   ·omega
   ·exact e
  ·have:=hb.1 x hx
   rcases List.mem_cons.1 ((h x).2 (by simp [hx])) with e | e
   ·omega
   ·exact e
theorem Qjg (l:List Int)(n:Int)(h0:0≤n)(hn:n≤4194304)(hl:l.length≤8388608)(sv:Value)(w:World)(hI:Ints w.heap.size w sv l):
  Calls Tryz.prog 83 #[sv,.int .i64 n] w fun r w'=>r = .returned (.bool (rsB l n))∧w'=w:=by
 obtain⟨p,c,rfl,ho⟩:=hI.openW
 have HO:Hid _:=fun (j:Nat) (hj:j<l.length)=>ho (j:=j) hj
 clear ho hI
 go_enter Tryz.func83,Tryz.ntmps83
 go_wp2
 go_loopw [5,10] (fun lv i wr=>∃ (k:Nat) (least:Int),k≤l.length∧i = .int .i64 k∧lv = .int .i64 least∧Hid (RIT l n k least)∧least≤n∧wr=w) (fun _ i _=>l.length-(intOf i).toNat)
 case atStart=>exact⟨0,0,YN,rfl,rfl,RIT.start l n,h0,rfl⟩
 case round=>
  obtain⟨k,least,hk,rfl,rfl,HR,hln,rfl⟩:=hrel
  by_cases hlt:k<l.length
  ·have hkl:(k:Int)<(l.length:Int):=by omega
   obtain⟨b,off,rfl,-,hc⟩:=HO.out k hlt
   have c0:=hc wr YD k hlt
   rw [QbJ hlt] at c0
   have HLT:Hid (k<l.length):=hlt
   by_cases h1:l[k]<least
   ·have HE:Hid (rsB l n=false):=RIT.low HR.out hlt h1
    generalize l[k]=x at c0 h1
    clear hlt hc
    go_wp2
    go_ret
    exact⟨by rw [HE.out];rfl,rfl⟩
   ·by_cases h2:n≤l[k]
    ·have HE:Hid (rsB l n=false):=RIT.high hlt h2
     generalize l[k]=x at c0 h1 h2
     clear hlt hc
     go_wp2
     go_ret
     exact⟨by rw [HE.out];rfl,rfl⟩
    ·have HN:Hid _:=HR.out.next hlt (by omega) (by omega)
     have h3:=HR.out.2.1
     generalize l[k]=x at c0 h1 h2 HN
     clear hlt hc
     go_wp2
     exact⟨⟨k+1,x+1,HLT.out,by go_num,rfl,HN,by omega,trivial⟩,by have:=HLT.out;simp [intOf];omega⟩
  ·obtain rfl:k=l.length:=by omega
   have HE:Hid (rsB l n=true):=RIT.done HR.out
   go_wp2
   go_ret
   exact⟨by rw [HE.out];rfl,rfl⟩
end Go.Proofs.YtalflecmadacaaaGreat
