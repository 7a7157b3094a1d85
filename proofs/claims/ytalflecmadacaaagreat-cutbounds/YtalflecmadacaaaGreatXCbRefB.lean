import Derived.Deep.QuietTactic
import Derived.BigQuiet
import Derived.Test.YtalflecmadacaaaGreatZAJ
import Derived.Test.YtalflecmadacaaaGreatZAQ
import Derived.Test.YtalflecmadacaaaGreatXPRefBlk
import Derived.Test.YtalflecmadacaaaGreatZAA
set_option maxRecDepth 100000
set_option maxHeartbeats 8000000
namespace Go.Proofs.YtalflecmadacaaaGreat
open Go Go.Proofs Go.RowKit
theorem Qlv {l:List Ed}{b:List Int}{k:Nat}(h:k<b.length):pick l (b.take (k+1))=pick l (b.take k)++[l.getD b[k].toNat (0,0,0)]:=by
 unfold pick
 rw [List.take_succ_eq_append_getElem h,List.map_append]
 rfl
theorem Qcg {l:List Ed}:∀ {xs:List Int},(∀ x∈xs,0≤wtI l x∧wtI l x≤2147483648)→0≤(xs.map (wtI l)).sum∧(xs.map (wtI l)).sum≤(xs.length:Int)*2147483648
 | [],_=>by simp
 | x :: xs,h=>by
  have h1:=h x (List.mem_cons_self ..)
  have h2:=Qcg (xs:=xs) fun y hy=>h y (List.mem_cons_of_mem _ hy)
  rw [List.map_cons,List.sum_cons,List.length_cons]
  generalize (xs.map (wtI l)).sum=s at *
  omega
theorem Qnn {l:List Ed}{L:List Int}(hL:L.length=l.length)(hw:∀ x∈(gOf L).flatten,0≤wtI l x∧wtI l x≤2147483648)(j:Nat):0≤sumG l (gOf L) j∧sumG l (gOf L) j≤(l.length:Int)*2147483648:=by
 have hp:(gOf L).flatten.length=l.length:=by
  have h:=(List.perm_iff_count (l₁:=(gOf L).flatten) (l₂:=(List.range l.length).map fun (k:Nat)=>(k:Int))).2 fun x=>by
   by_cases hx:∃ p:Nat,x=(p:Int)∧p<L.length
   ·obtain⟨p,rfl,hp⟩:=hx
    rw [Qfy hp]
    refine (QbS (List.Pairwise.map _ (fun a b h=>by omega) List.nodup_range) ?_).symm
    exact List.mem_map.2 ⟨p,List.mem_range.2 (by omega),rfl⟩
   ·rw [List.count_eq_zero.2 (fun h=>hx (Qds h)),List.count_eq_zero.2]
    intro h
    obtain⟨p,hp,rfl⟩:=List.mem_map.1 h
    exact hx ⟨p,rfl,by have:=List.mem_range.1 hp;omega⟩
  have:=h.length_eq
  simpa using this
 have hsub:∀ x∈((gOf L).take j).flatten,x∈(gOf L).flatten:=fun x hx=>by
  obtain⟨b,hb,h2⟩:=List.mem_flatten.1 hx
  exact List.mem_flatten.2 ⟨b,List.mem_of_mem_take hb,h2⟩
 have hlen:((gOf L).take j).flatten.length≤l.length:=by
  have e:(gOf L).flatten=((gOf L).take j).flatten++((gOf L).drop j).flatten:=by rw [← List.flatten_append,List.take_append_drop]
  rw [← hp,e,YI]
  omega
 have h:=Qcg (xs:=((gOf L).take j).flatten) fun x hx=>hw x (hsub x hx)
 unfold sumG
 generalize (((gOf L).take j).flatten.map (wtI l)).sum=s at *
 omega
theorem Qiy {l:List Ed}{q:Nat}(hq:q<l.length):wtI l (q:Int)=l[q].2.2:=by simp [wtI,YC,hq]
theorem QgN (n:Int)(l:List Ed)(hm:l.length≤4194304)(hk:fitC n l≠0)(sv:Value)(w:World)(hl:Edges w.heap.size w sv l):
  Calls Tryz.prog 24 #[.agg #[.int .i64 n,sv]] w fun e w'=>e = .returned (.tuple #[.int .i64 0,.int .i64 (fitC n l)])∧Below w.heap.size w w':=by
 obtain⟨p,c,rfl⟩:=hl.len
 have hg1:Grew w (w.alloc (.cells #[.int .i64 n,.slice p l.length c] 24)):=(Grew.refl w).alloc _
 have hrr:=QdG n l (.slice p l.length c) _ (hl.go hg1.below)
 have HG1:Hid (Grew w (w.alloc (.cells #[.int .i64 n,.slice p l.length c] 24))):=hg1
 have HL:Hid (Edges w.heap.size w (.slice p l.length c) l):=hl
 by_cases hk0:rightK n l=0
 ·have hneg:l.any negB=true:=by
   cases e:l.any negB with
   | true=>rfl
   | false=>
    exfalso
    apply hk
    unfold fitC
    rw [if_pos hk0,e]
    rfl
  have HF:Hid (fitC n l=10):=by show _=_;unfold fitC;rw [if_pos hk0,hneg];rfl
  rw [hk0] at hrr
  clear hg1 hl hk
  go_enter Tryz.func24,Tryz.ntmps24
  go_wp2_with fail
  refine hrr.mono ?_
  rintro e w2 ⟨rfl,hg2⟩
  have q:=box2 _ hg2
  have q0:=q.1
  have q1:=q.2
  have HB2:Hid (Below w.heap.size w w2):=(HG1.out.trans hg2).below
  have hng:=Qb4 n l hm (.slice p l.length c) w2 (HL.out.go HB2.out)
  rw [hneg] at hng
  clear hrr hg2 HG1 q
  go_wp2_with fail
  refine hng.mono ?_
  rintro e w3 ⟨rfl,hb3⟩
  have HB3:Hid (Below w.heap.size w w3):=HB2.out.trans (hb3.mono HB2.out.size)
  clear hng hb3 q0 q1
  go_wp2
  refine bodyPost_ret (v:=.tuple #[.int .i64 0,.int .i64 10]) (by simp [results,Tryz.results24,go_sem]) rfl ?_
  exact⟨by rw [HF.out],HB3.out⟩
 ·have HF:Hid (fitC n l=1):=if_neg hk0
  have hk2:(rightK n l==0)=false:=by simpa using hk0
  generalize rightK n l=k at *
  clear hg1 hl hk hk0
  go_enter Tryz.func24,Tryz.ntmps24
  go_wp2_with fail
  refine hrr.mono ?_
  rintro e w2 ⟨rfl,hg2⟩
  have HB2:Hid (Below w.heap.size w w2):=(HG1.out.trans hg2).below
  clear hrr hg2 HG1
  go_wp2
  refine bodyPost_ret (v:=.tuple #[.int .i64 0,.int .i64 1]) (by simp [results,Tryz.results24,go_sem]) rfl ?_
  exact⟨by rw [HF.out],HB2.out⟩
theorem QgO (N:Nat)(l:List Ed)(hR:RightG (N:Int) l)(hn:l.any negB=false)(sv:Value)(w:World)(hl:Edges w.heap.size w sv l):
  Calls Tryz.prog 24 #[.agg #[.int .i64 (N:Int),sv]] w fun e w'=>e = .returned (.tuple #[.int .i64 (sumC l l.length-offB l (badB N l) (gOf (walkW N l).block) (gOf (walkW N l).block).length),.int .i64 0])∧Below w.heap.size w w':=by
 have hmix:=mixed
 obtain⟨p,c,rfl⟩:=hl.len
 obtain⟨i0,hi,hz0,hz1,hz2⟩:=info_parts infoE
 have hm1:=hR.m1
 have hg1:Grew w (w.alloc (.cells #[.int .i64 (N:Int),.slice p l.length c] 24)):=(Grew.refl w).alloc _
 have hrr:=QdG (N:Int) l (.slice p l.length c) _ (hl.go hg1.below)
 rw [right_iff.2 hR] at hrr
 have hlen:(walkW N l).block.length=l.length:=(Qcd hR).lenK
 have HL:Hid (Edges w.heap.size w (.slice p l.length c) l):=hl
 have HG1:Hid (Grew w (w.alloc (.cells #[.int .i64 (N:Int),.slice p l.length c] 24))):=hg1
 have HNG:Hid _:=hn
 have HBL:Hid (∀ W,Edges W.heap.size W (.slice p l.length c) l→Calls Tryz.prog 48 #[.agg #[.int .i64 (N:Int),.slice p l.length c]] W fun r w'=>∃ lv svs h0,r = .returned lv∧Grp h0 lv svs (gOf (walkW N l).block) w'∧Below W.heap.size W w'):=fun W h=>by
  have h2:=QfO N l hR (.slice p l.length c) W h
  rw [← Qhz hR] at h2
  exact h2
 have hwt:∀ x:Int,(∃ k:Nat,x=(k:Int)∧k<l.length)→0≤wtI l x∧wtI l x≤2147483648:=fun x hx=>by
  obtain⟨k,rfl,hk⟩:=hx
  obtain⟨⟨_,_,_,_,_,h5,h6⟩,_⟩:=hR.each l[k] (YG hk)
  have h7:=List.any_eq_false.1 hn l[k] (YG hk)
  have h8:¬ l[k].2.2<0:=fun h=>h7 (by simp [negB,h])
  rw [Qiy hk]
  omega
 have HWT:Hid _:=hwt
 have HEA:Hid (∀ b∈gOf (walkW N l).block,(b≠[]∧∀ x∈b,∃ k:Nat,x=(k:Int)∧k<l.length)∧b.length≤l.length∧RightG (N:Int) (pick l b)):=fun b hb=>by
  obtain⟨h1,h2,u,h3⟩:=QbT hlen b hb
  refine⟨⟨h1,h2⟩,?_,?_⟩
  ·have:=Qcm (walkW N l).block (walkW N l).block.length b hb
   omega
  ·rw [h3,Qet]
   exact Qhp hR _ u
 have HLB:Hid (∀ b∈gOf (walkW N l).block,0≤lowW l b∧lowW l b≤2147483648):=fun b hb=>Qfk hR hn (QbT hlen b hb).1 (QbT hlen b hb).2.1
 have HGL:Hid ((gOf (walkW N l).block).length≤l.length):=by
  show _≤_
  have h1:=Qc8 (walkW N l).block (walkW N l).block.length
  have h2:=Qd5 (walkW N l).block (walkW N l).block.length
  show (gath (walkW N l).block (walkW N l).block.length).2.length≤l.length
  omega
 have HSG:Hid (∀ j,0≤sumG l (gOf (walkW N l).block) j∧sumG l (gOf (walkW N l).block) j≤(l.length:Int)*2147483648):=fun j=>Qnn hlen (fun x hx=>hwt x (by
  obtain⟨k,h1,h2⟩:=Qds hx
  exact⟨k,h1,by omega⟩)) j
 have HALL:Hid (sumG l (gOf (walkW N l).block) (gOf (walkW N l).block).length=sumC l l.length):=Qno hlen
 clear hg1 hl hwt hlen hn hR
 rw [← HALL.out]
 clear HALL
 generalize gOf (walkW N l).block=G at *
 go_enter Tryz.func24,Tryz.ntmps24
 go_wp2_with fail
 refine hrr.mono ?_
 rintro e w2 ⟨rfl,hg2⟩
 have q0:=(box2 _ hg2).1
 have q1:=(box2 _ hg2).2
 have HB2:Hid (Below w.heap.size w w2):=(HG1.out.trans hg2).below
 have hng:=Qb4 (N:Int) l hm1 (.slice p l.length c) w2 (HL.out.go HB2.out)
 rw [HNG.out] at hng
 clear hrr hg2 HG1 HNG
 go_wp2_with fail
 refine hng.mono ?_
 rintro e w3 ⟨rfl,hb3⟩
 have HB3:Hid (Below w.heap.size w w3):=HB2.out.trans (hb3.mono HB2.out.size)
 replace q0:=Qaa hb3 q0
 replace q1:=Qaa hb3 q1
 have hbl:=HBL.out w3 (HL.out.go HB3.out)
 clear hng hb3 HB2 HBL
 go_wp2_with fail
 refine hbl.mono ?_
 rintro e w4 ⟨lv,svs,h0,rfl,hG,hb4⟩
 clear hbl
 have hLs:=hG.lsts
 obtain⟨pl,cl,rfl⟩:=hLs.len
 have HB4:Hid (Below w.heap.size w w4):=HB3.out.trans (hb4.mono HB3.out.size)
 replace q0:=Qaa hb4 q0
 replace q1:=Qaa hb4 q1
 have HLs:Hid (Lsts w4.heap.size w4 (.slice pl G.length cl) G):=hLs
 have HQ:Hid (w4.cell? ⟨w.heap.size,0,none⟩=some (.int .i64 (N:Int))∧w4.cell? ⟨w.heap.size,1,none⟩=some (.slice p l.length c)):=⟨q0,q1⟩
 have HX4:Hid (w.heap.size<w4.heap.size):=World.block_lt_of_cell? w4 ⟨w.heap.size,0,none⟩ q0
 clear hb4 hG hLs HB3 q0 q1
 have hoff0:=Qev l (badB N l) G
 have hsg0:sumG l G 0=0:=by simp [sumG]
 go_wp2
 go_loopw [5,6] (fun wv iv wr=>∃ j:Nat,j≤G.length∧wv = .int .i64 (sumG l G j-offB l (badB N l) G j)∧iv = .int .i64 (j:Int)∧Hid (Below w4.heap.size w4 wr)) (fun _ i _=>G.length-(intOf i).toNat)
 case atStart=>exact⟨0,YN,by rw [hoff0,hsg0];rfl,rfl,YD⟩
 case round=>
  clear hoff0 hsg0
  obtain⟨j,hj,rfl,rfl,HBr⟩:=hrel
  by_cases hlt:j<G.length
  ·have hjl:(j:Int)<(G.length:Int):=by omega
   have x0:=Qaa HBr.out HQ.out.1
   have x1:=Qaa HBr.out HQ.out.2
   have hbw:=HB4.out.trans (HBr.out.mono HB4.out.size)
   obtain⟨b,off,rfl,hbb,hcap,px,cx,hIx,c0⟩:=(HLs.out.go HBr.out).cellAt hlt
   have hmem:=YG hlt
   obtain⟨⟨hne,hin⟩,hbl,hRb⟩:=HEA.out _ hmem
   have hlow:=HLB.out _ hmem
   have hofew:=Qi0 (q:=badB N l) HLB.out j hj
   have hsfew:=HSG.out j
   have HSO:Hid _:=Qew (l:=l) (q:=badB N l) hlt
   have HSS:Hid _:=QkX (l:=l) hlt
   have HIN:Hid (∀ x∈G[j],∃ k:Nat,x=(k:Int)∧k<l.length):=hin
   have HLM:Hid (lowF l 2147483648 G[j]=lowW l G[j]):=Qpl hne fun x hx=>(HWT.out x (hin x hx)).2
   have HBL:Hid (G[j].length≤l.length):=hbl
   have HTW:Hid (∀ ev W,Edges W.heap.size W ev (pick l G[j])→_):=fun ev W h=>QjP N (pick l G[j]) hRb ev W h
   have HBB:Hid (badB N l (G[j]'hlt) = !oneB (cAt N (pick l (G[j]'hlt)) N) (pick l (G[j]'hlt))):=rfl
   have HGB:Hid (0≤sumG l G j-offB l (badB N l) G j+18014398509481984∧sumG l G j-offB l (badB N l) G j≤18014398509481984∧0≤lowW l G[j]∧lowW l G[j]≤2147483648):=by
    have:=HGL.out
    refine⟨?_,?_,hlow⟩ <;> omega
   have HIx:Hid (Ints wr.heap.size wr (.slice px G[j].length cx) G[j]):=hIx
   have HBW:Hid (Below w.heap.size w wr):=hbw
   have HLT:Hid (j<G.length):=hlt
   clear hbw hmem hne hin hbl hRb hlow hofew hsfew hIx hbb hcap
   generalize badB N l (G[j]'hlt)=bad at *
   obtain⟨sg,hsg⟩:∃ s,sumG l G j-offB l (badB N l) G j=s:=⟨_,rfl⟩
   have HSGE:Hid (sumG l G j-offB l (badB N l) G j=sg):=hsg
   rw [hsg] at HGB ⊢
   clear hsg
   obtain⟨lw,hlw⟩:∃ s,lowW l (G[j]'hlt)=s:=⟨_,rfl⟩
   rw [hlw] at HGB HLM HSO
   clear hlw
   obtain⟨B,hB⟩:∃ B,(G[j]'hlt)=B:=⟨_,rfl⟩
   rw [hB] at HSS HIN HLM HBL HTW HBB HIx c0
   clear hB hlt
   have hbA:Below wr.heap.size wr (wr.alloc (.cells #[.int .i64 (N:Int),.slice none 0 0] 24)):=YD.alloc YA _
   have hH0:Blk 24 (wr.alloc (.cells #[.int .i64 (N:Int),.slice none 0 0] 24)) wr.heap.size [.int .i64 (N:Int),.slice none 0 0]:=heap_alloc_new wr _
   have HbA:Hid (Below wr.heap.size wr (wr.alloc (.cells #[.int .i64 (N:Int),.slice none 0 0] 24))):=hbA
   have HH0:Hid (Blk 24 (wr.alloc (.cells #[.int .i64 (N:Int),.slice none 0 0] 24)) wr.heap.size [.int .i64 (N:Int),.slice none 0 0]):=hH0
   have HC0:Hid (wr.cell? ⟨b,off+j,none⟩=some (.slice px B.length cx)):=c0
   have HX1:Hid (wr.cell? ⟨w.heap.size,1,none⟩=some (.slice p l.length c)):=x1
   clear hbA hH0 c0 x1
   go_wp2
   obtain⟨w5,hw5⟩:∃ W,wr.alloc (.cells #[.int .i64 (N:Int),.slice none 0 0] 24)=W:=⟨_,rfl⟩
   rw [hw5] at HbA HH0 ⊢
   clear hw5 x0
   obtain⟨x,hx⟩:∃ n,wr.heap.size=n:=⟨_,rfl⟩
   have HXE:Hid (wr.heap.size=x):=hx
   rw [hx] at HH0 ⊢
   have HbX:Hid (Below x wr w5):=by have h:=HbA.out;rw [hx] at h;exact h
   clear hx HbA
   generalize wr=wo at *
   go_loopw [5,8,9] (fun wv lv kv wr=>∃ (k:Nat) (ev:Value),k≤B.length∧wv = .int .i64 (sg+sumB l B k)∧lv = .int .i64 (lowF l 2147483648 (B.take k))∧kv = .int .i64 (k:Int)∧Hid (Blk 24 wr x [.int .i64 (N:Int),ev])∧Hid (wr.ownsRow (x+1) 50 3 ev (pick l (B.take k)).length (flat (pick l (B.take k))))∧Hid (Below x wo wr)) (fun _ _ i _=>B.length-(intOf i).toNat)
   case atStart=>exact⟨0,.slice none 0 0,YN,by rw [show sumB l B 0=0 from by simp [sumB],Int.add_zero],rfl,rfl,HH0.out,World.ownsRow_nil _ _ _ _,HbX.out⟩
   case round=>
    clear HH0 HbX
    obtain⟨k,ev,hk,rfl,rfl,rfl,HH,HO,HBs⟩:=hrel
    have hbk:Below wo.heap.size wo wr:=by have h:=HBs.out;rw [← HXE.out] at h;exact h
    have r1:=Qaa hbk HX1.out
    have r2:=Qaa hbk HC0.out
    by_cases hlt:k<B.length
    ·have hkl:(k:Int)<(B.length:Int):=by omega
     obtain⟨rb,ro,rfl,_,_,hrc⟩:=(HIx.out.go hbk).open hlt
     have d0:=hrc wr YD k hlt
     obtain⟨q,hq,hql⟩:=HIN.out B[k] (YG hlt)
     obtain⟨be,oe,rfl,_,_,hec,-⟩:=(HL.out.go HBW.out).open hql
     obtain⟨e0,e1,e2⟩:=hec wr hbk q hql
     have hwq:=HWT.out B[k] (HIN.out B[k] (YG hlt))
     have HPS:Hid (pick l (B.take (k+1))=pick l (B.take k)++[l[q]]):=by
      show _=_
      rw [Qlv hlt,hq,YM,YC,YB hql]
      rfl
     have HSB:Hid (sumB l B (k+1)=sumB l B k+l[q].2.2):=by show _=_;rw [QkY hlt,hq,Qiy hql]
     have HLF:Hid (lowF l 2147483648 (B.take (k+1))=min (lowF l 2147483648 (B.take k)) l[q].2.2):=by
      show _=_
      rw [List.take_succ_eq_append_getElem hlt,QgX,hq,Qiy hql]
     have hsb:=Qcg (l:=l) (xs:=B.take k) fun y hy=>HWT.out y (HIN.out y (List.mem_of_mem_take hy))
     have hbl:=HBL.out
     have hgb:=HGB.out
     rw [hq,Qiy hql] at hwq
     have hadd:IntKind.i64.wrap (sg+sumB l B k+l[q].2.2)=sg+sumB l B k+l[q].2.2:=by
      refine QaM _ ?_ ?_ <;> (unfold sumB;rw [List.length_take] at hsb;omega)
     have HPL:Hid ((pick l (B.take k)).length=k):=by show _=_;unfold pick;rw [List.length_map,List.length_take];omega
     rw [hq] at d0
     have hqL:(q:Int)<(l.length:Int):=by omega
     have HLTk:Hid (k<B.length):=hlt
     have hk4:k≤4194304:=by omega
     clear hlt hrc hec hq hsb hwq hgb hbl
     obtain⟨ee,hee⟩:∃ e:Ed,l[q]=e:=⟨_,rfl⟩
     rw [hee] at e0 e1 e2 HPS HSB HLF hadd
     clear hee
     generalize sumB l B k=sb at *
     generalize lowF l 2147483648 (B.take k)=lf at *
     generalize pick l (B.take k)=PK at *
     go_wp2
     have hbd:Below wr.heap.size wr wr.drew:=Qab YD 1
     refine Qah (S:=(fun w':World=>w'.cell? ⟨w.heap.size,1,none⟩=some (.slice (some ⟨be,oe,none⟩) l.length c)∧w'.cell? ⟨b,off+j,none⟩=some (.slice (some ⟨rb,ro,none⟩) B.length cx)∧w'.cell? ⟨rb,ro+k,none⟩=some (.int .i64 (q:Int))∧w'.cell? ⟨be,oe+q*3,none⟩=some (.int .i64 ee.1)∧w'.cell? ⟨be,oe+q*3+1,none⟩=some (.int .i64 ee.2.1)∧w'.cell? ⟨be,oe+q*3+2,none⟩=some (.int .i64 ee.2.2))) (by kernel_rfl) ?_ (fun hHeld=>?_)
     ·exact⟨Qaa hbd r1,Qaa hbd r2,Qaa hbd d0,Qaa hbd e0,Qaa hbd e1,Qaa hbd e2⟩
     refine tL 0 ?_
     try simp only [z4]
     refine tL 1 ?_
     refine tL 2 ?_
     refine tL 3 ?_
     refine tL 4 ?_
     refine tL 5 ?_
     try simp only [z1,z2,z3,z4,z5,z6]
     refine tL 6 ?_
     refine tL 7 ?_
     refine tL 8 ?_
     refine tL 9 ?_
     refine tL 10 ?_
     try simp only [z1,z2,z3,z4,z5,z6]
     have HH5:Hid (Blk 24 wr.drew x [.int .i64 (N:Int),ev]):=HH.out
     have HO5:Hid (wr.drew.ownsRow (x+1) 50 3 ev PK.length (flat PK)):=QbQ HO.out hbd
     have HB5:Hid (Below x wo wr.drew):=Qab HBs.out 1
     clear r1 r2 d0 e0 e1 e2 hbd hbk HH HO HBs
     generalize wr.drew=w6 at *
     have hbA:Below w6.heap.size w6 (w6.alloc (.cells #[.int .i64 0,.int .i64 0,.int .i64 0] 50)):=YD.alloc YA _
     have hBk:Blk 50 (w6.alloc (.cells #[.int .i64 0,.int .i64 0,.int .i64 0] 50)) w6.heap.size [.int .i64 0,.int .i64 0,.int .i64 0]:=heap_alloc_new w6 _
     refine Qad (rs:=[11]) (by kernel_rfl) (by simp) ?_
     refine AllReadyL.cons rfl (fun K hK=>?_) AllReadyL.nil
     go_simp
     refine hK.out _ _ ⟨Qaa hbA hHeld.1,Qaa hbA hHeld.2.1,Qaa hbA hHeld.2.2.1,Qaa hbA hHeld.2.2.2.1,Qaa hbA hHeld.2.2.2.2.1,Qaa hbA hHeld.2.2.2.2.2⟩ (fun hHeld6=>?_)
     clear hK K
     try simp only [Act.put,z4,z5,z6]
     have hBs:Blk 50 (w6.alloc (.cells #[.int .i64 ee.1,.int .i64 ee.2.1,.int .i64 ee.2.2] 50)) w6.heap.size [.int .i64 ee.1,.int .i64 ee.2.1,.int .i64 ee.2.2]:=heap_alloc_new w6 _
     have hb7:Below w6.heap.size w6 (w6.alloc (.cells #[.int .i64 ee.1,.int .i64 ee.2.1,.int .i64 ee.2.2] 50)):=YD.alloc YA _
     refine Qad (rs:=[12]) (by kernel_rfl) (by simp) ?_
     refine AllReadyL.last rfl (by kernel_rfl) (fun K hK=>?_)
     go_simp
     refine hK.out _ _ ?_
     clear hK K
     try simp only [Act.put,z4,z5,z6]
     refine Qaj (by kernel_rfl) ?_ _
     try simp only [z1,z2,z3,z4,z5,z6]
     have hH7:=HH5.out.go hb7
     have hO7:=QbQ HO5.out hb7
     have hB7:=HB5.out.trans (hb7.mono (by have h1:=HB5.out.size;have h2:=HXE.out;omega))
     have hx6:=HH5.out.lt
     have hevl:∀ z,ev.ownBlock=some z→x+1≤z∧z<w6.heap.size:=fun z hz=>HO5.out.lt z hz
     clear hHeld hHeld6 hbA hBk hb7 HH5 HO5 HB5
     generalize w6.alloc (.cells #[.int .i64 ee.1,.int .i64 ee.2.1,.int .i64 ee.2.2] 50)=w7 at *
     generalize w6.heap.size=eb at *
     have heb:=hBs.lt
     obtain⟨pp,cc,rfl⟩:=QcV hO7
     have k1:=hH7.cell (j:=1) rfl
     have f1:=hH7.frozen 1
     have y0:=hBs.cell (j:=0) rfl
     have y1:=hBs.cell (j:=1) rfl
     have y2:=hBs.cell (j:=2) rfl
     have hex:eb≠x:=by omega
     have hown9:=hO7.alloc (.cells #[.int .i64 ee.1,.int .i64 ee.2.1,.int .i64 ee.2.2] 50)
     have hn3:=news3 (w:=w7) (t:=50) ee
     have ho3:=one3 ee
     have hmx:PK.length+1≤maxLen:=by have:=HPL.out;unfold maxLen;omega
     have hby24:(PK.length+1)*24≤140737488355328:=by have:=HPL.out;omega
     have hbs:x+1≤(w7.alloc (.cells #[.int .i64 ee.1,.int .i64 ee.2.1,.int .i64 ee.2.2] 50)).heap.size:=by simp;omega
     have hgA:Below w7.heap.size w7 (w7.alloc (.cells #[.int .i64 ee.1,.int .i64 ee.2.1,.int .i64 ee.2.2] 50)):=YD.alloc YA _
     have hH9:=hH7.go hgA
     have hE9:=hBs.go hgA
     have hB9:=hB7.trans (hgA.mono (by omega))
     have hneH:some x≠(Value.slice pp PK.length cc).ownBlock:=fun e=>by have:=hevl _ e.symm;omega
     have hneE:some eb≠(Value.slice pp PK.length cc).ownBlock:=fun e=>by have:=hevl _ e.symm;omega
     have hlow:∀ z,(Value.slice pp PK.length cc).ownBlock=some z→x≤z:=fun z hz=>by have:=hevl z hz;omega
     have HPS2:Hid _:=HPS
     clear hO7 hgA hBs hH7 hB7 HPS
     go_wp2_with (at_builtin;refine wpList_append_own_at _ rfl _ _ 22 rfl (x+1) 50 i0 (.agg #[.int .i64 0,.int .i64 0,.int .i64 0]) 3 24 Tryz.underlying22 hi hz0 hz1 hz2 (by simp [Value.cells]) (by decide) (.slice pp PK.length cc) _ _ rfl hown9 ⟨w7.heap.size,0,none⟩ 1 1 (encE ee) rfl rfl hn3 ho3 hmx hby24 hbs ?_;intro v8 w8 hown8 hgrow8 hnil8 hat8;obtain⟨p8,c8,rfl⟩:=QcV hown8;have hH8:=hH9.grown hgrow8 hneH;have hE8:=hE9.grown hgrow8 hneE;have k8:=hH8.cell (j:=1) rfl;have f8:=hH8.frozen 1;have z2:=hE8.cell (j:=2) rfl)
     have hb8:Below x wo w8:=hB9.grown hgrow8 (by simp;omega) (fun z hz=>hlow z hz)
     refine⟨⟨k+1,_,HLTk.out,?_,?_,by go_num,hH8.set 1 _,?_,hb8.setCell (p:=⟨x,1,none⟩) YA _⟩,by have:=HLTk.out;simp [intOf];omega⟩
     ·rw [HSB.out,← Int.add_assoc]
     ·rw [HLF.out]
     ·unfold Hid
      rw [HPS2.out,Qhb,YI]
      exact QfS hown8 (by simp) _
    ·obtain rfl:k=B.length:=by omega
     have hkl:¬ (B.length:Int)<(B.length:Int):=by omega
     rw [List.take_length] at HO
     have hEd:=Edges.of_owns HO.out
     have htw:=HTW.out ev wr hEd
     have k0:=HH.out.cell (j:=0) rfl
     have k1:=HH.out.cell (j:=1) rfl
     rw [List.take_length,HLM.out]
     have HB5:Hid (Below w4.heap.size w4 wr):=HBr.out.trans (hbk.mono HBr.out.size)
     have hgb:=HGB.out
     have hsb:=Qcg (l:=l) (xs:=B.take B.length) fun y hy=>HWT.out y (HIN.out y (List.mem_of_mem_take hy))
     have hbl:=HBL.out
     have hsub:IntKind.i64.wrap (sg+sumB l B B.length-lw)=sg+sumB l B B.length-lw:=by
      refine QaM _ ?_ ?_ <;> (unfold sumB;rw [List.length_take] at hsb;omega)
     clear HO hEd HTW hbk hsb hgb hbl
     generalize hsB:sumB l B B.length=sB at *
     go_wp2_with fail
     refine htw.mono ?_
     rintro e w6 ⟨hres,hb6⟩
     clear htw k0 k1
     have HB6:Hid (Below w4.heap.size w4 w6):=HB5.out.trans (hb6.mono HB5.out.size)
     clear hb6 HB5
     rcases hres with ⟨hno,bt,rfl,_⟩ | ⟨hno,rfl⟩
     ·have HBD:Hid (bad=false):=by show _=_;rw [HBB.out,oneB_iff.2 hno];rfl
      clear hno hsub
      have hgl:=HGL.out
      go_wp2
      refine⟨⟨j+1,HLT.out,?_,by go_num,HB6.out⟩,by have:=HLT.out;simp [intOf];omega⟩
      rw [HSO.out,HSS.out,HBD.out,if_neg (by simp),← HSGE.out]
      congr 1
      omega
     ·have HBD:Hid (bad=true):=by
       show _=_
       rw [HBB.out]
       cases e:oneB (cAt N (pick l B) N) (pick l B) with
       | true=>exact absurd (oneB_iff.1 e) hno
       | false=>rfl
      clear hno
      have hgl:=HGL.out
      go_wp2
      refine⟨⟨j+1,HLT.out,?_,by go_num,HB6.out⟩,by have:=HLT.out;simp [intOf];omega⟩
      rw [HSO.out,HSS.out,HBD.out,if_pos rfl,← HSGE.out]
      congr 1
      omega
  ·obtain rfl:j=G.length:=by omega
   have HBW:Hid (Below w.heap.size w wr):=HB4.out.trans (HBr.out.mono HB4.out.size)
   clear HBr
   go_wp2
   refine bodyPost_ret (v:=.tuple #[.int .i64 (sumG l G G.length-offB l (badB N l) G G.length),.int .i64 0]) (by simp [results,Tryz.results24,go_sem]) rfl ?_
   exact⟨rfl,HBW.out⟩
end Go.Proofs.YtalflecmadacaaaGreat
