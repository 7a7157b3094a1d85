import Derived.Deep.AppendLies
import Derived.OwnWalk
import Derived.Maps.AppendAt
import Derived.Test.YtalflecmadacaaaGreatZAQ
import Derived.Test.YtalflecmadacaaaGreatZAP
import Derived.Test.YtalflecmadacaaaGreatZAG
import Derived.Deep.RegionHeld3
import Derived.Test.YtalflecmadacaaaGreatZAA
set_option maxRecDepth 100000
set_option maxHeartbeats 8000000
namespace Go.Proofs.YtalflecmadacaaaGreat
open Go Go.Proofs Go.RowKit
theorem infoE:(Tryz.prog.info? 50).map (fun i=>(i.zero,i.size,i.bytes))=some (some (.agg #[.int .i64 0,.int .i64 0,.int .i64 0]),3,24):=by kernel_rfl
theorem QaU {w w':World}{base:Nat}{e:TypeId}{size:Nat}{v:Value}{n:Nat}{xs:List Value}(h:w.ownsRow base e size v n xs)(hb:Below w.heap.size w w'):w'.ownsRow base e size v n xs:=by
 refine h.kept (row:=none) (⟨hb.os,hb.tape,hb.output,hb.size,fun k hk _=>hb.block k hk⟩:w.grownBy w' none) ?_
 cases v.ownBlock with
 | none=>exact .inl rfl
 | some k=>exact .inr (by simp)
theorem Edges.of_owns {W:World}{base:Nat}{e:TypeId}{v:Value}{l:List Ed}(h:W.ownsRow base e 3 v l.length (flat l)):Edges W.heap.size W v l:=by
 rcases h.2 with ⟨rfl,h0⟩ | ⟨g,cap,cur,rfl,hb,hg,hn,hc⟩
 ·exact .inl ⟨⟨_,_,rfl⟩,List.eq_nil_of_length_eq_zero h0⟩
 ·refine .inr ⟨g,0,cap,rfl,(Array.getElem?_eq_some_iff.1 hg).1,hn,fun j x hx=>?_⟩
  obtain⟨k0,k1,k2⟩:=Qdt hx
  have c0:=h.cells (g:=g) rfl (j*3) _ k0
  have c1:=h.cells (g:=g) rfl (j*3+1) _ k1
  have c2:=h.cells (g:=g) rfl (j*3+2) _ k2
  rw [Go.WideShapes.add_plain] at c0 c1 c2
  exact⟨c0,c1,c2⟩
def Above (n:Nat)(sv:Value):Prop:=∀ a len c,sv = .slice (some a) len c→0<len→n≤a.block
theorem Above.of_owns {W:World}{base:Nat}{e:TypeId}{size:Nat}{v:Value}{n:Nat}{xs:List Value}(h:W.ownsRow base e size v n xs):Above base v:=by
 intro a len c hv _
 rcases h.2 with ⟨h1,_⟩ | ⟨g,cap,cur,h1,hb,_⟩
 ·rw [h1] at hv;cases hv
 ·rw [h1] at hv
  simp only [Value.slice.injEq,Option.some.injEq] at hv
  rw [← hv.1];exact hb
theorem Edges.setLow {W:World}{n:Nat}{sv:Value}{l:List Ed}(h:Edges W.heap.size W sv l)(ha:Above n sv){p:Addr}(hp:p.block<n)(v:Value):Edges (W.setCell p v).heap.size (W.setCell p v) sv l:=by
 rcases h with h | ⟨b,off,cap,h1,h2,h3,h4⟩
 ·exact .inl h
 ·refine .inr ⟨b,off,cap,h1,by simpa using h2,h3,fun j x hx=>?_⟩
  have hj:=(YE hx).1
  have hb:=ha _ _ _ h1 (by omega)
  simp only at hb
  obtain⟨k0,k1,k2⟩:=h4 j x hx
  have hne:∀ o,p≠⟨b,o,none⟩:=fun o e=>by rw [e] at hp;simp at hp;omega
  exact⟨(World.cell?_setCell_other _ _ _ _ (hne _)).trans k0,(World.cell?_setCell_other _ _ _ _ (hne _)).trans k1,(World.cell?_setCell_other _ _ _ _ (hne _)).trans k2⟩
theorem news3 {w:World}{t:TypeId}(e:Ed):∀ (i:Nat) (u:Value),(encE e)[i]? = some u→(w.alloc (.cells #[.int .i64 e.1,.int .i64 e.2.1,.int .i64 e.2.2] t)).cell? ((⟨w.heap.size,0,none⟩:Addr).add i)=some u:=by
 intro i u hu
 rw [Go.WideShapes.add_plain,Nat.zero_add]
 match i with
 | 0=>simp [encE] at hu;subst hu;simp
 | 1=>simp [encE] at hu;subst hu;simp
 | 2=>simp [encE] at hu;subst hu;simp
 | i+3=>simp [encE] at hu
theorem one3 (e:Ed):∀ u∈encE e,u.oneCell'=true:=by
 intro u hu
 simp [encE] at hu
 rcases hu with rfl | rfl | rfl <;> rfl
theorem Qhb (l:List Ed)(e:Ed):flat (l++[e])=flat l++encE e:=by simp [flat]
theorem QlA (w:World)(base:Nat)(e:TypeId):w.ownsRow base e 3 (.slice none 0 0) 0 (flat []):=World.ownsRow_nil w base e 3
theorem QjN {fn:Func}{p:Tmp}(h:fn.results = #[.cell p 24]){tmps:Array Value}{w:World}{b:Nat}{x y:Value}(hp:tmps.getD p undef = .pointer (some ⟨b,0,none⟩))(h0:w.cell? ⟨b,0,none⟩=some x)(h1:w.cell? ⟨b,1,none⟩=some y):
  (results fn tmps).run Tryz.prog w = .ok (.agg #[x,y]) w:=by
 have a1:=Tryz.isAgg24
 have a2:=Tryz.sizeOf24
 rw [Array.getD_eq_getD_getElem?] at hp
 simp only [results,h]
 simp [Sem.run_bind,Result.andThen,hp]
 go_simp
theorem QcV {W:World}{base:Nat}{e:TypeId}{size:Nat}{v:Value}{n:Nat}{xs:List Value}(h:W.ownsRow base e size v n xs):∃ p c,v = .slice p n c:=by
 rcases h.2 with ⟨rfl,rfl⟩ | ⟨g,cap,cur,rfl,_⟩ <;> exact⟨_,_,rfl⟩
theorem Blk.grown {t:TypeId}{A B:World}{g:Nat}{vs:List Value}{row:Option Nat}(h:Blk t A g vs)(hg:A.grownBy B row)(hne:some g≠row):Blk t B g vs:=(hg.block g h.lt hne).trans h
theorem QfS {W:World}{base:Nat}{e:TypeId}{size:Nat}{v:Value}{n:Nat}{xs:List Value}(h:W.ownsRow base e size v n xs){p:Addr}(hp:p.block<base)(u:Value):(W.setCell p u).ownsRow base e size v n xs:=by
 obtain⟨h1,h2⟩:=h
 refine⟨h1,?_⟩
 rcases h2 with h2 | ⟨g,cap,cur,hv,hb,hg,r⟩
 ·exact .inl h2
 ·exact .inr ⟨g,cap,cur,hv,hb,(Below.heap_setCell _ _ _ _ (by omega)).trans hg,r⟩
theorem Qfq {kp:List Bool}{v:Int}(hv:0≤v):((kp.length:Int)≤v∧keptB kp v=false)∨∃ (x:Nat) (hx:x<kp.length),v=(x:Int)∧keptB kp v=kp[x]:=by
 by_cases h:v<(kp.length:Int)
 ·right
  refine⟨v.toNat,by omega,by omega,?_⟩
  have h2:v.toNat<kp.length:=by omega
  simp [keptB,h,h2]
 ·left
  have hd:decide (v<(kp.length:Int))=false:=by simpa using h
  exact⟨by omega,by unfold keptB;rw [hd];rfl⟩
theorem QjQ (n:Int)(l:List Ed)(hR:RightG n l)(kp:List Bool)(sv sk:Value)(w:World)(hl:Edges w.heap.size w sv l)(hK:Bools w.heap.size w sk kp):
  Calls Tryz.prog 75 #[.agg #[.int .i64 n,sv],sk] w fun r w'=>∃ gv,r = .returned (.agg #[.int .i64 n,gv])∧Edges w'.heap.size w' gv (keepL l (onlyP l kp) l.length)∧Above w.heap.size gv∧Below w.heap.size w w':=by
 obtain⟨p,c,rfl⟩:=hl.len
 obtain⟨pk,ck,rfl⟩:=hK.len
 obtain⟨i0,hi,hz0,hz1,hz2⟩:=info_parts infoE
 have hm1:=hR.m1
 have hg1:Grew w (((w.alloc (.cells #[.int .i64 n,.slice p l.length c] 24)).alloc (.cells #[.int .i64 0,.slice none 0 0] 24)).alloc (.cells #[.int .i64 n,.slice none 0 0] 24)):=(((Grew.refl w).alloc _).alloc _).alloc _
 have hB0:Blk 24 (((w.alloc (.cells #[.int .i64 n,.slice p l.length c] 24)).alloc (.cells #[.int .i64 0,.slice none 0 0] 24)).alloc (.cells #[.int .i64 n,.slice none 0 0] 24)) w.heap.size [.int .i64 n,.slice p l.length c]:=by
  have h1:Blk 24 (w.alloc (.cells #[.int .i64 n,.slice p l.length c] 24)) w.heap.size [.int .i64 n,.slice p l.length c]:=heap_alloc_new w _
  exact h1.go ((((Grew.refl _).alloc _).alloc _).below)
 have hB1:Blk 24 (((w.alloc (.cells #[.int .i64 n,.slice p l.length c] 24)).alloc (.cells #[.int .i64 0,.slice none 0 0] 24)).alloc (.cells #[.int .i64 n,.slice none 0 0] 24)) (w.heap.size+1) [.int .i64 0,.slice none 0 0]:=by
  have h1:Blk 24 ((w.alloc (.cells #[.int .i64 n,.slice p l.length c] 24)).alloc (.cells #[.int .i64 0,.slice none 0 0] 24)) (w.heap.size+1) [.int .i64 0,.slice none 0 0]:=by
   have:=heap_alloc_new (w.alloc (.cells #[.int .i64 n,.slice p l.length c] 24)) (.cells #[.int .i64 0,.slice none 0 0] 24)
   simpa [Blk] using this
  exact h1.go (((Grew.refl _).alloc _).below)
 have hB2:Blk 24 (((w.alloc (.cells #[.int .i64 n,.slice p l.length c] 24)).alloc (.cells #[.int .i64 0,.slice none 0 0] 24)).alloc (.cells #[.int .i64 n,.slice none 0 0] 24)) (w.heap.size+1+1) [.int .i64 n,.slice none 0 0]:=by
  have:=heap_alloc_new ((w.alloc (.cells #[.int .i64 n,.slice p l.length c] 24)).alloc (.cells #[.int .i64 0,.slice none 0 0] 24)) (.cells #[.int .i64 n,.slice none 0 0] 24)
  simpa [Blk] using this
 go_enter Tryz.func75,Tryz.ntmps75
 go_wp2
 have hsz:=hB2.lt
 generalize ((w.alloc (.cells #[.int .i64 n,.slice p l.length c] 24)).alloc (.cells #[.int .i64 0,.slice none 0 0] 24)).alloc (.cells #[.int .i64 n,.slice none 0 0] 24)=w1 at hg1 hB0 hB1 hB2 hsz ⊢
 go_loopw [6] (fun i wr=>∃ (j:Nat) (s:Value),j≤l.length∧i = .int .i64 j∧Blk 24 wr (w.heap.size+1+1) [.int .i64 n,s]∧wr.ownsRow (w.heap.size+3) 50 3 s (keepL l (onlyP l kp) j).length (flat (keepL l (onlyP l kp) j))∧Below (w.heap.size+2) w1 wr) (fun i _=>l.length-(intOf i).toNat)
 case atStart=>exact⟨0,_,YN,rfl,hB2,QlA _ _ _,YD⟩
 case round=>
  obtain⟨j,s,hj,rfl,hO,hown,hb⟩:=hrel
  have hbwr:Below w.heap.size w wr:=hg1.below.trans (hb.mono (by omega))
  have hE0:=hB0.below hb (by omega)
  have hE1:=hB1.below hb (by omega)
  have hOl:=hO.lt
  have d1:=hE0.cell (j:=1) rfl
  by_cases hlt:j<l.length
  ·obtain⟨b,off,rfl,hbb,hcap,hc,-⟩:=hl.open hlt
   obtain⟨c0,c1,c2⟩:=hc wr hbwr j hlt
   have hjl:(j:Int)<(l.length:Int):=by omega
   have hok:=(hR.each l[j] (YG hlt)).1
   have hu:0≤l[j].1:=hok.1
   have hv:0≤l[j].2.1:=hok.2.2.1
   have hpj:=QnH (kp:=kp) hlt
   have HP:Hid _:=hpj
   have HIN:onlyP l kp j=true→Hid (keepL l (onlyP l kp) (j+1)=keepL l (onlyP l kp) j++[l[j]]):=fun h=>Qi9 hlt h
   have HI:Hid _:=HIN
   clear hc hok hpj HIN
   generalize l[j]=e at c0 c1 c2 hu hv HP HI
   obtain⟨y1,y2,y3⟩:=e
   simp only at c0 c1 c2 hu hv HP
   have hO8:=hO.go ((Grew.refl wr).alloc (.cells #[.int .i64 y1,.int .i64 y2,.int .i64 y3] 50)).below
   have hown8:=hown.alloc (.cells #[.int .i64 y1,.int .i64 y2,.int .i64 y3] 50)
   have hb8:Below (w.heap.size+2) w1 (wr.alloc (.cells #[.int .i64 y1,.int .i64 y2,.int .i64 y3] 50)):=hb.alloc (by omega) _
   have hbk:∀ x (hx:x<kp.length),∃ bk offk,pk=some ⟨bk,offk,none⟩∧bk<w.heap.size∧kp.length≤ck∧∀ i (hi:i<kp.length),wr.cell? ⟨bk,offk+i,none⟩=some (.bool kp[i]):=fun x hx=>by
    obtain⟨bk,offk,h1,h2,h3,h4⟩:=hK.open hx
    exact⟨bk,offk,h1,h2,h3,fun i hi=>h4 wr hbwr i hi⟩
   rcases Qfq (kp:=kp) hu with ⟨hge,hf⟩ | ⟨x,hx,rfl,hkx⟩
   ·have hd:decide (y1<(kp.length:Int))=false:=by simpa using hge
    have HK:Hid _:=Qb7 (l:=l) (pred:=onlyP l kp) (j:=j) (by rw [HP.out];rw [hf];rfl)
    clear HP
    go_wp2
    exact⟨⟨j+1,s,by omega,by go_num,hO8,by rw [HK.out];exact hown8,hb8⟩,by simp [intOf];omega⟩
   ·obtain⟨bk,offk,rfl,hbkl,hckl,hcells⟩:=hbk x hx
    have e1:=hcells x hx
    have hbkr:bk<wr.heap.size:=by omega
    have hxl:(x:Int)<(kp.length:Int):=by omega
    cases hbx:kp[x] with
    | false=>
     rw [hbx] at e1 hkx
     clear hcells hbx hbk
     have HK:Hid _:=Qb7 (l:=l) (pred:=onlyP l kp) (j:=j) (by rw [HP.out];rw [hkx];rfl)
     clear HP
     go_wp2
     exact⟨⟨j+1,s,by omega,by go_num,hO8,by rw [HK.out];exact hown8,hb8⟩,by simp [intOf];omega⟩
    | true=>
     rw [hbx] at e1 hkx
     rcases Qfq (kp:=kp) hv with ⟨hge,hf⟩ | ⟨y,hy,rfl,hky⟩
     ·have hd:decide (y2<(kp.length:Int))=false:=by simpa using hge
      clear hcells hbx hbk
      have HK:Hid _:=Qb7 (l:=l) (pred:=onlyP l kp) (j:=j) (by rw [HP.out];rw [hf,Bool.and_false])
      clear HP
      go_wp2
      exact⟨⟨j+1,s,by omega,by go_num,hO8,by rw [HK.out];exact hown8,hb8⟩,by simp [intOf];omega⟩
     ·have e2:=hcells y hy
      have hyl:(y:Int)<(kp.length:Int):=by omega
      cases hby:kp[y] with
      | false=>
       rw [hby] at e2 hky
       clear hcells hbx hbk hby
       have HK:Hid _:=Qb7 (l:=l) (pred:=onlyP l kp) (j:=j) (by rw [HP.out];rw [hky,Bool.and_false])
       clear HP
       go_wp2
       exact⟨⟨j+1,s,by omega,by go_num,hO8,by rw [HK.out];exact hown8,hb8⟩,by simp [intOf];omega⟩
      | true=>
       rw [hby] at e2 hky
       have HK:Hid _:=HI.out (by rw [HP.out,hkx,hky];rfl)
       obtain⟨pp,cc,rfl⟩:∃ pp cc,s = .slice pp (keepL l (onlyP l kp) j).length cc:=(Edges.of_owns hown).len
       have k1:=hO8.cell (j:=1) rfl
       have f1:=hO8.frozen 1
       have hklen:=Qg2 l (onlyP l kp) j
       have hown9:=hown8.alloc (.cells #[.int .i64 (x:Int),.int .i64 (y:Int),.int .i64 y3] 50)
       have hmx:(keepL l (onlyP l kp) j).length+1≤maxLen:=by unfold maxLen;omega
       have hby24:((keepL l (onlyP l kp) j).length+1)*24≤140737488355328:=by omega
       have hbs:w.heap.size+3≤((wr.alloc (.cells #[.int .i64 (x:Int),.int .i64 (y:Int),.int .i64 y3] 50)).alloc (.cells #[.int .i64 (x:Int),.int .i64 (y:Int),.int .i64 y3] 50)).heap.size:=by simp;omega
       have hlow:∀ k,(Value.slice pp (keepL l (onlyP l kp) j).length cc).ownBlock=some k→w.heap.size+3≤k:=fun k e=>(hown8.lt k e).1
       have hn3:=news3 (w:=wr.alloc (.cells #[.int .i64 (x:Int),.int .i64 (y:Int),.int .i64 y3] 50)) (t:=50) ((x:Int),(y:Int),y3)
       have ho3:=one3 ((x:Int),(y:Int),y3)
       have hsz8:(wr.alloc (.cells #[.int .i64 (x:Int),.int .i64 (y:Int),.int .i64 y3] 50)).heap.size=wr.heap.size+1:=by simp
       rw [hsz8] at hn3
       have hO9:=hO8.go ((Grew.refl _).alloc (.cells #[.int .i64 (x:Int),.int .i64 (y:Int),.int .i64 y3] 50)).below
       have hne9:some (w.heap.size+1+1)≠(Value.slice pp (keepL l (onlyP l kp) j).length cc).ownBlock:=fun e=>by have:=hlow _ e.symm;omega
       clear hcells hbx hbk hby HP hsz8
       go_wp2_with (at_builtin;refine wpList_append_own_at _ rfl _ _ 22 rfl (w.heap.size+3) 50 i0 (.agg #[.int .i64 0,.int .i64 0,.int .i64 0]) 3 24 Tryz.underlying22 hi hz0 hz1 hz2 (by simp [Value.cells]) (by decide) (.slice pp (keepL l (onlyP l kp) j).length cc) _ _ rfl hown9 ⟨wr.heap.size+1,0,none⟩ 1 1 (encE ((x:Int),(y:Int),y3)) rfl rfl hn3 ho3 hmx hby24 hbs ?_;intro v6 w6 hown6 hgrow6 hnil6 hat6;obtain⟨p6,c6,rfl⟩:=QcV hown6;have hO6:=hO9.grown hgrow6 hne9;have k6:=hO6.cell (j:=1) rfl;have f6:=hO6.frozen 1)
       have hb6:Below (w.heap.size+2) w1 w6:=(hb8.alloc (by simp;omega) _).grown hgrow6 (by simp;omega) (fun k e=>by have:=hlow k e;omega)
       refine⟨⟨j+1,_,by omega,by go_num,hO6.set 1 _,?_,hb6.setCell (p:=⟨w.heap.size+1+1,1,none⟩) (by simp) _⟩,by simp [intOf];omega⟩
       rw [HK.out,Qhb,YI]
       exact QfS hown6 (by simp) _
  ·obtain rfl:j=l.length:=by omega
   have hEd:=Edges.of_owns hown
   have hAb:=Above.of_owns hown
   obtain⟨pp,cc,rfl⟩:=hEd.len
   have k0:=hO.cell (j:=0) rfl
   have k1:=hO.cell (j:=1) rfl
   have f0:=hE1.frozen 0
   have f1:=hE1.frozen 1
   have x0:=hE1.cell (j:=0) rfl
   have x1:=hE1.cell (j:=1) rfl
   go_wp2
   have hbf:=(hE1.set 0 (.int .i64 n)).set 1 (.slice pp (keepL l (onlyP l kp) l.length).length cc)
   (try simp only [Exit.inBlock,Exit.then])
   refine bodyPost_ret (QjN rfl (by rfl) (hbf.cell (j:=0) rfl) (hbf.cell (j:=1) rfl)) rfl ?_
   refine⟨.slice pp (keepL l (onlyP l kp) l.length).length cc,rfl,?_,fun a len c h1 h2=>Nat.le_trans (by omega) (hAb a len c h1 h2),(hbwr.setCell (p:=⟨w.heap.size+1,0,none⟩) (by simp) _).setCell (p:=⟨w.heap.size+1,1,none⟩) (by simp) _⟩
   exact (hEd.setLow hAb (by simp) _).setLow hAb (by simp) _
theorem QhS (n:Int)(l:List Ed)(hR:RightG n l)(kp:List Bool)(sv sk:Value)(w:World)(hl:Edges w.heap.size w sv l)(hK:Bools w.heap.size w sk kp):
  Calls Tryz.prog 75 #[.agg #[.int .i64 n,sv],sk] w fun r w'=>∃ gv,r = .returned (.agg #[.int .i64 n,gv])∧Edges w'.heap.size w' gv (keepL l (onlyP l kp) l.length)∧Below w.heap.size w w':=
 (QjQ n l hR kp sv sk w hl hK).mono fun _ _ ⟨gv,h1,h2,_,h3⟩=>⟨gv,h1,h2,h3⟩
def joinP (x y:Int)(O:List Int)(j:Nat):List Int:=joinL x y (O.take j)++O.drop j
theorem Qme (x y:Int)(O:List Int)(j:Nat):(joinP x y O j).length=O.length:=by
 unfold joinP
 rw [YI,Qbi,← YI,List.take_append_drop]
theorem Qj5 (x y:Int)(O:List Int):joinP x y O 0=O:=by simp [joinP,joinL]
theorem Qj7 (x y:Int)(O:List Int):joinP x y O O.length=joinL x y O:=by simp [joinP]
theorem Qja {x y:Int}{O:List Int}{j:Nat}(h:j<O.length):(joinP x y O j)[j]? = some (O.getD j 0):=by
 unfold joinP
 rw [List.getElem?_append_right (by rw [Qbi,List.length_take];omega),Qbi,List.length_take,Nat.min_eq_left (by omega),Nat.sub_self,List.getElem?_drop,Nat.add_zero,YC,YB h]
 rfl
theorem Qft {x y:Int}{O:List Int}{j:Nat}(h:j<O.length):joinP x y O (j+1)=(joinP x y O j).set j (if O.getD j 0=y then x else O.getD j 0):=by
 have e:O.getD j 0=O[j]:=by rw [YC,YB h];rfl
 have hl:(joinL x y (O.take j)).length=j:=by rw [Qbi,List.length_take];omega
 unfold joinP
 rw [Qgy h,List.set_append,if_neg (by omega),hl,Nat.sub_self,List.drop_eq_getElem_cons h,List.set_cons_zero,e]
 unfold joinL
 rw [List.map_append,List.append_assoc]
 rfl
theorem Qj6 {x y:Int}{O:List Int}{j:Nat}(h:j<O.length)(he:O.getD j 0≠y):joinP x y O (j+1)=joinP x y O j:=by
 rw [Qft h,if_neg he]
 apply List.ext_getElem?
 intro i
 rw [List.getElem?_set]
 split
 ·rename_i e
  subst e
  rw [Qja h,if_pos (by rw [Qme];exact h)]
 ·rfl
theorem QdU (es:List Ed)(lab:List Int)(v:Int)(i:Nat)(O:List Int):∀ k,(rowB es lab v i O k).length=O.length
 | 0=>rfl
 | k+1=>by
  rw [rowB]
  unfold stepB
  split
  ·rw [Qbi];exact QdU es lab v i O k
  ·exact QdU es lab v i O k
theorem Qea (es:List Ed)(lab:List Int)(v:Int)(O:List Int):∀ k,(vertB es lab v O k).length=O.length
 | 0=>rfl
 | k+1=>by rw [vertB,QdU];exact Qea es lab v O k
theorem QfT (N:Nat)(es:List Ed):∀ k,(ofAt N es k).length=es.length
 | 0=>Qig _
 | k+1=>by rw [ofAt,Qea];exact QfT N es k
theorem QeK {A B C:World}{g:Nat}(h:A.grownBy B (some g))(hb:Below B.heap.size B C):A.grownBy C (some g):=
 ⟨hb.os.trans h.os,hb.tape.trans h.tape,hb.output.trans h.output,Nat.le_trans h.size hb.size,fun q hq hne=>(hb.block q (Nat.lt_of_lt_of_le hq h.size)).trans (h.block q hq hne)⟩
theorem Qmu {A B:World}{g:Nat}(h:A.grownBy B (some g))(q:Nat)(v:Value):A.grownBy (B.setCell ⟨g,q,none⟩ v) (some g):=
 ⟨h.os,h.tape,h.output,by simp;exact h.size,fun q2 hq hne=>(Below.heap_setCell _ _ _ _ (fun e=>hne (by rw [e]))).trans (h.block q2 hq hne)⟩
theorem Qje {A B:World}{g:Nat}(h:A.grownBy B (some g)){n:Nat}(hn:n≤g)(hA:n≤A.heap.size):Below n A B:=
 ⟨h.os,h.tape,h.output,h.size,fun q hq=>h.block q (by omega) (fun e=>by cases e;omega)⟩
theorem QfO (N:Nat)(l:List Ed)(hR:RightG (N:Int) l)(sv:Value)(w:World)(hl:Edges w.heap.size w sv l):
  Calls Tryz.prog 48 #[.agg #[.int .i64 (N:Int),sv]] w fun r w'=>∃ lv svs h0,r = .returned lv∧Grp h0 lv svs (rcAt (ofAt N l N) l.length l.length) w'∧Below w.heap.size w w':=by
 have hmix:=mixed
 obtain⟨p,c,rfl⟩:=hl.len
 have hg1:Grew w (w.alloc (.cells #[.int .i64 (N:Int),.slice p l.length c] 24)):=(Grew.refl w).alloc _
 have hX1:Blk 24 (w.alloc (.cells #[.int .i64 (N:Int),.slice p l.length c] 24)) w.heap.size [.int .i64 (N:Int),.slice p l.length c]:=heap_alloc_new w _
 obtain⟨i0,hi,hz0,hz1,hz2⟩:=info_parts infoI
 obtain⟨j0,kj,kz0,kz1,kz2⟩:=info_parts QoK
 have hn1:=hR.n1
 have hm1:=hR.m1
 have q0:=hX1.cell (j:=0) rfl
 have q1:=hX1.cell (j:=1) rfl
 have hs1:(w.alloc (.cells #[.int .i64 (N:Int),.slice p l.length c] 24)).heap.size=w.heap.size+1:=by simp
 go_enter Tryz.func48,Tryz.ntmps48
 go_wp2_with (at_make;refine wpList_make_full _ rfl _ _ 27 rfl (w.heap.size+1) 3 i0 (.int .i64 0) 1 Tryz.underlying27 hi hz0 hz1 .i64 .i64 _ _ l.length rfl rfl rfl rfl (by rw [hz2];omega) (by unfold maxLen;omega) (by rw [hs1];exact YA) ?_;intro w3 hown hgrow;have hb3:Below (w.heap.size+1) (w.alloc (.cells #[.int .i64 (N:Int),.slice p l.length c] 24)) w3:=YD.grown hgrow (by rw [hs1];exact YA) (fun k e=>by cases e);have x0:=(hb3.cell (p:=⟨w.heap.size,0,none⟩) (by simp only;omega)).trans q0;have x1:=(hb3.cell (p:=⟨w.heap.size,1,none⟩) (by simp only;omega)).trans q1)
 have hrow:=Blk.made hown
 rw [QaD,← QeS l.length,hs1] at hrow
 have hbw3:Below w.heap.size w w3:=hg1.below.trans (hb3.mono (by omega))
 clear hown hgrow q0 q1 hb3 hX1 hg1 hs1
 obtain⟨g,hg⟩:∃ g,g=w.heap.size+1:=⟨_,rfl⟩
 rw [← hg] at hrow ⊢
 have hgw:w.heap.size<g:=by omega
 clear hg
 go_loopw [4] (fun i wr=>∃ j:Nat,j≤l.length∧i = .int .i64 j∧Blk 3 wr g ((QbY l.length j).map (Value.int .i64))∧Below g w3 wr) (fun i _=>l.length-(intOf i).toNat)
 case atStart=>exact⟨0,YN,rfl,hrow,YD⟩
 case round=>
  obtain⟨j,hj,rfl,hB,hb⟩:=hrel
  by_cases hlt:j<l.length
  ·have hjl:(j:Int)<(l.length:Int):=by omega
   have t0:wr.cell? ⟨g,j,none⟩=some (.int .i64 0):=hB.cell (by rw [YH,Qdc hlt,if_neg (Nat.lt_irrefl j)];rfl)
   have f0:=hB.frozen j
   have hBn:=hB.set j (.int .i64 (j:Int))
   rw [← List.map_set,QeT hlt] at hBn
   go_wp2
   exact⟨⟨j+1,by omega,by go_num,hBn,hb.setCell (p:=⟨g,j,none⟩) YA _⟩,by simp [intOf];omega⟩
  ·obtain rfl:j=l.length:=by omega
   have hjN:¬ (l.length:Int)<(l.length:Int):=by omega
   rw [QeU] at hB
   have y0:=(hb.cell (p:=⟨w.heap.size,0,none⟩) hgw).trans x0
   have y1:=(hb.cell (p:=⟨w.heap.size,1,none⟩) hgw).trans x1
   have hbw4:Below w.heap.size w wr:=hbw3.trans (hb.mono (by omega))
   have HB0:Hid (Blk 3 wr g ((ofAt N l 0).map (Value.int .i64))):=hB
   clear hB hb x0 x1 hrow hbw3
   generalize wr=w4 at *
   go_wp2
   go_loopw [5] (fun vv wr=>∃ v:Nat,v≤N∧vv = .int .i64 v∧Hid (Blk 3 wr g ((ofAt N l v).map (Value.int .i64)))∧Below g w4 wr) (fun i _=>N-(intOf i).toNat)
   case atStart=>exact⟨0,YN,rfl,HB0.out,YD⟩
   case round=>
    obtain⟨v,hv,rfl,HBv,hbv⟩:=hrel
    have r0:=(hbv.cell (p:=⟨w.heap.size,0,none⟩) hgw).trans y0
    have r1:=(hbv.cell (p:=⟨w.heap.size,1,none⟩) hgw).trans y1
    have hbw5:Below w.heap.size w wr:=hbw4.trans (hbv.mono (by omega))
    have hlr:=hl.go hbw5
    have hgl:g<wr.heap.size:=HBv.out.lt
    by_cases hvN:v<N
    ·have hvl:(v:Int)<(N:Int):=by omega
     have HNX:Hid (ofAt N l (v+1)=vertB l (labAt N (cutG N l v) N) (v:Int) (ofAt N l v) l.length):=rfl
     have HOL:Hid _:=QfT N l v
     go_wp2
     obtain⟨xb,hxb⟩:∃ xb,xb=w.heap.size:=⟨_,rfl⟩
     rw [← hxb] at r0 r1 ⊢
     have HX:Hid (xb=w.heap.size):=hxb
     clear hxb
     refine wp_region_held_drew (S:=(fun w':World=>w'.cell? ⟨xb,0,none⟩=some (.int .i64 (N:Int))∧w'.cell? ⟨xb,1,none⟩=some (.slice p l.length c))) (by kernel_rfl) ?_ (fun hHeld=>?_)
     ·(try dsimp only);go_keep
     refine tH 0 ?_
     try simp only [YS]
     refine tH 1 ?_
     refine tH 2 ?_
     refine tH 3 ?_
     have hbd:Below wr.heap.size wr wr.drew:=Qab YD 1
     refine wpAnyH_ready (rs:=[4]) (by kernel_rfl) (by simp) ?_
     refine AllReadyH.cons rfl (fun K hK=>?_) AllReadyH.nil
     go_simp
     refine (QjR N (by omega) v _).mono ?_
     rintro e w5 ⟨sk,rfl,hB5,hb5⟩
     have hb35:=hbd.trans (hb5.mono hbd.size)
     refine hK.out _ _ ⟨Qaa hb35 r0,Qaa hb35 r1⟩ (fun hHeld5=>?_)
     clear hK K hHeld
     try simp only [Act.put,YS,YT,YU]
     refine wpAnyH_ready (rs:=[5]) (by kernel_rfl) (by simp) ?_
     refine AllReadyH.cons rfl (fun K hK=>?_) AllReadyH.nil
     go_simp
     refine (QhS (N:Int) l hR (butL N v) _ _ _ (hlr.go hb35) hB5).mono ?_
     rintro e w6 ⟨gv,rfl,hE6,hb6⟩
     have hb36:=hb35.trans (hb6.mono hb35.size)
     refine hK.out _ _ ⟨Qaa hb6 hHeld5.1,Qaa hb6 hHeld5.2⟩ (fun hHeld6=>?_)
     clear hK K hHeld5
     try simp only [Act.put,YS,YT,YU]
     refine wpAnyH_ready (rs:=[6]) (by kernel_rfl) (by simp) ?_
     refine AllReadyH.cons rfl (fun K hK=>?_) AllReadyH.nil
     go_simp
     refine (QcQ N (cutG N l v) (Qfr hR _) _ _ hE6).mono ?_
     rintro e w8 ⟨gl,rfl,hB8,hgl8,hb8⟩
     have hb38:=hb36.trans (hb8.mono hb36.size)
     refine hK.out _ _ ⟨Qaa hb8 hHeld6.1,Qaa hb8 hHeld6.2⟩ (fun hHeld8=>?_)
     clear hK K hHeld6
     try simp only [Act.put,YS,YT,YU]
     refine wpAnyH_ready (rs:=[7]) (by kernel_rfl) (by simp) ?_
     refine AllReadyH.cons rfl (fun K hK=>?_) AllReadyH.nil
     go_simp
     refine hK.out _ _ ?_ (fun hHeld=>?_)
     ·(try dsimp only);first | (go_keep;done) | ((repeat' apply And.intro) <;> go_simp)
     clear hK K
     try simp only [YS,YT,YU]
     refine wpAnyH_done (by kernel_rfl) ?_ _
     have hxx:=HX.out
     subst hxx
     have HB8:Hid (Blk 3 w8 g ((ofAt N l v).map (Value.int .i64))):=HBv.out.go hb38
     have hglg:g<gl:=by
      have:=hb36.size
      omega
     have hgl8':gl<w8.heap.size:=hB8.lt
     have hbw8:Below w.heap.size w w8:=hbw5.trans (hb38.mono hbw5.size)
     have hbv8:Below g w4 w8:=hbv.trans (hb38.mono (Nat.le_of_lt hgl))
     have HL8:Hid _:=hB8
     have HLL:Hid _:=QaC N (cutG N l v) N
     have HCI:Hid _:=fun i k hi hk=>Qd6 hR (v:=v) (i:=i) (k:=k) hi hk
     have s0:=hHeld8.1
     have s1:=hHeld8.2
     obtain⟨lab,Hlab⟩:∃ lab,Hid (labAt N (cutG N l v) N=lab):=⟨_,rfl⟩
     obtain⟨O,HO⟩:∃ O,Hid (ofAt N l v=O):=⟨_,rfl⟩
     rw [Hlab.out] at HL8 HLL HCI HNX
     rw [HO.out] at HB8 HOL HNX
     clear Hlab HO hb35 hb36 hb38 hb5 hb6 hb8 hbd hB5 hE6 hB8 hHeld8 HBv hbv r0 r1 hlr hgl8 hbw5
     go_wp2
     go_loopw [7] (fun ii wr=>∃ i:Nat,i≤l.length∧ii = .int .i64 i∧Hid (Blk 3 wr g ((vertB l lab (v:Int) O i).map (Value.int .i64)))∧Hid (w8.grownBy wr (some g))) (fun i _=>l.length-(intOf i).toNat)
     case atStart=>exact⟨0,YN,rfl,HB8.out,World.grownBy.refl _ _⟩
     case round=>
      obtain⟨i,hi9,rfl,HBi,HGi⟩:=hrel
      have a1:=HGi.out.cell s1 (by simp;omega)
      by_cases hil:i<l.length
      ·have hil':(i:Int)<(l.length:Int):=by omega
       have HRW:Hid (vertB l lab (v:Int) O (i+1)=rowB l lab (v:Int) i (vertB l lab (v:Int) O i) i):=rfl
       have HVL:Hid ((vertB l lab (v:Int) O i).length=l.length):=by rw [Hid,Qea];exact HOL.out
       obtain⟨V,HV⟩:∃ V,Hid (vertB l lab (v:Int) O i=V):=⟨_,rfl⟩
       rw [HV.out] at HBi HRW HVL
       clear HV
       go_wp2
       clear a1
       go_loopw [8] (fun kk wr=>∃ k:Nat,k≤i∧kk = .int .i64 k∧Hid (Blk 3 wr g ((rowB l lab (v:Int) i V k).map (Value.int .i64)))∧Hid (w8.grownBy wr (some g))) (fun k _=>i-(intOf k).toNat)
       case atStart=>exact⟨0,YN,rfl,HBi.out,HGi.out⟩
       case round=>
        obtain⟨k,hk9,rfl,HBk,HGk⟩:=hrel
        by_cases hki:k<i
        ·have hkl:k<l.length:=by omega
         have hki':(k:Int)<(i:Int):=by omega
         have hil':(i:Int)<(l.length:Int):=by omega
         have hkl':(k:Int)<(l.length:Int):=by omega
         have a1:=HGk.out.cell s1 (by simp;omega)
         have hbwk:Below w.heap.size w wr:=hbw8.trans (Qje HGk.out (Nat.le_of_lt hgw) hbw8.size)
         obtain⟨b,off,rfl,hbb,hcap,hc,-⟩:=hl.open hkl
         obtain⟨c0,c1,c2⟩:=hc wr hbwk k hkl
         obtain⟨d0,d1,d2⟩:=hc wr hbwk i hil
         have hoi:=(hR.each l[i] (YG hil)).1
         have hok:=(hR.each l[k] (YG hkl)).1
         have HCE:Hid (condB l lab (v:Int) i k=(atE l[i] (v:Int) && atE l[k] (v:Int) && (lab.getD (QaZ l[i] (v:Int)).toNat 0==lab.getD (QaZ l[k] (v:Int)).toNat 0))):=by
          unfold Hid condB
          rw [YC,YB hil,YC,YB hkl]
          rfl
         have HST:Hid (rowB l lab (v:Int) i V (k+1)=stepB l lab (v:Int) i k (rowB l lab (v:Int) i V k)):=rfl
         have HRL:Hid ((rowB l lab (v:Int) i V k).length=l.length):=by rw [Hid,QdU];exact HVL.out
         obtain⟨ni,hni,hniN⟩:∃ ni:Nat,QaZ l[i] (v:Int)=(ni:Int)∧ni<N:=by
          unfold okE at hoi
          unfold QaZ
          split
          ·exact⟨l[i].2.1.toNat,by omega,by omega⟩
          ·exact⟨l[i].1.toNat,by omega,by omega⟩
         obtain⟨nk,hnk,hnkN⟩:∃ nk:Nat,QaZ l[k] (v:Int)=(nk:Int)∧nk<N:=by
          unfold okE at hok
          unfold QaZ
          split
          ·exact⟨l[k].2.1.toNat,by omega,by omega⟩
          ·exact⟨l[k].1.toNat,by omega,by omega⟩
         rw [hni,hnk,YM,YM] at HCE
         have HKI:Hid (k<i):=hki
         have hOi:=fun W=>QdH l[i].1 l[i].2.1 l[i].2.2 (v:Int) W
         have hOk:=fun W=>QdH l[k].1 l[k].2.1 l[k].2.2 (v:Int) W
         rw [show QaZ (l[i].1,l[i].2.1,l[i].2.2) (v:Int)=(ni:Int) from hni,show atE (l[i].1,l[i].2.1,l[i].2.2) (v:Int)=atE l[i] (v:Int) from rfl] at hOi
         rw [show QaZ (l[k].1,l[k].2.1,l[k].2.2) (v:Int)=(nk:Int) from hnk,show atE (l[k].1,l[k].2.1,l[k].2.2) (v:Int)=atE l[k] (v:Int) from rfl] at hOk
         generalize atE l[i] (v:Int)=pi at *
         generalize atE l[k] (v:Int)=pk at *
         generalize l[i].1=x1 at *
         generalize l[i].2.1=x2 at *
         generalize l[i].2.2=x3 at *
         generalize l[k].1=y1 at *
         generalize l[k].2.1=y2 at *
         generalize l[k].2.2=y3 at *
         clear hc hoi hok hni hnk
         go_wp2_with fail
         refine (hOi wr).mono ?_
         rintro e w9 ⟨rfl,hg9⟩
         have a9:=Qaa hg9.below a1
         have c09:=Qaa hg9.below c0
         have c19:=Qaa hg9.below c1
         have c29:=Qaa hg9.below c2
         clear c0 c1 c2 d0 d1 d2 a1 hOi
         go_wp2_with fail
         refine (hOk w9).mono ?_
         rintro e w10 ⟨rfl,hg10⟩
         have HG10:Hid (w8.grownBy w10 (some g)):=QeK (QeK HGk.out hg9.below) hg10.below
         have HB10:Hid (Blk 3 w10 g ((rowB l lab (v:Int) i V k).map (Value.int .i64))):=(HBk.out.go hg9.below).go hg10.below
         have HL10:Hid (Blk 3 w10 gl (lab.map (Value.int .i64))):=Blk.grown HL8.out HG10.out (by simp;omega)
         clear a9 c09 c19 c29 hOk hg9 hg10 HBk HGk
         obtain⟨R,HRR⟩:∃ R,Hid (rowB l lab (v:Int) i V k=R):=⟨_,rfl⟩
         rw [HRR.out] at HST HRL HB10
         clear HRR
         have HNO:Hid (condB l lab (v:Int) i k=false∨R.getD i 0=R.getD k 0→rowB l lab (v:Int) i V (k+1)=R):=fun h=>by
          rw [HST.out]
          unfold stepB
          rw [if_neg]
          rintro⟨h1,h2⟩
          rcases h with h | h
          ·rw [h] at h1;cases h1
          ·exact h2 h
         have HYES:Hid (condB l lab (v:Int) i k=true→R.getD i 0≠R.getD k 0→rowB l lab (v:Int) i V (k+1)=joinL (min (R.getD i 0) (R.getD k 0)) (max (R.getD i 0) (R.getD k 0)) R):=fun h1 h2=>by
          rw [HST.out]
          unfold stepB
          rw [if_pos ⟨h1,h2⟩]
         cases pi with
         | false=>
          have HE:Hid (rowB l lab (v:Int) i V (k+1)=R):=HNO.out (.inl (by rw [HCE.out];rfl))
          clear HNO HYES HCE HST
          go_wp2
          go_quiet (fail)
          have HB11:Hid (Blk 3 (w10.drewN nq) g (R.map (Value.int .i64))):=HB10.out
          have HG11:Hid (w8.grownBy (w10.drewN nq) (some g)):=⟨HG10.out.os,HG10.out.tape,HG10.out.output,HG10.out.size,HG10.out.block⟩
          clear HB10 HG10 HL10
          generalize w10.drewN nq=w11 at HB11 HG11 ⊢
          go_wp2
          exact⟨⟨k+1,HKI.out,by go_num,by rw [HE.out];exact HB11.out,HG11.out⟩,by simp [intOf];omega⟩
         | true=>
          cases pk with
          | false=>
           have HE:Hid (rowB l lab (v:Int) i V (k+1)=R):=HNO.out (.inl (by rw [HCE.out];rfl))
           clear HNO HYES HCE HST
           go_wp2
           go_quiet (fail)
           have HB11:Hid (Blk 3 (w10.drewN nq) g (R.map (Value.int .i64))):=HB10.out
           have HG11:Hid (w8.grownBy (w10.drewN nq) (some g)):=⟨HG10.out.os,HG10.out.tape,HG10.out.output,HG10.out.size,HG10.out.block⟩
           clear HB10 HG10 HL10
           generalize w10.drewN nq=w11 at HB11 HG11 ⊢
           go_wp2
           exact⟨⟨k+1,HKI.out,by go_num,by rw [HE.out];exact HB11.out,HG11.out⟩,by simp [intOf];omega⟩
          | true=>
           have HLX:Hid (∀ n,n<N→lab[n]? = some (lab.getD n 0)):=fun n hn=>by rw [YC,YB (by rw [HLL.out];exact hn)];rfl
           have HRX:Hid (∀ n,n<l.length→R[n]? = some (R.getD n 0)):=fun n hn=>by rw [YC,YB (by rw [HRL.out];exact hn)];rfl
           have e0:w10.cell? ⟨gl,ni,none⟩=some (.int .i64 (lab.getD ni 0)):=HL10.out.cell (by rw [YH,HLX.out ni hniN];rfl)
           have e1:w10.cell? ⟨gl,nk,none⟩=some (.int .i64 (lab.getD nk 0)):=HL10.out.cell (by rw [YH,HLX.out nk hnkN];rfl)
           have e2:w10.cell? ⟨g,i,none⟩=some (.int .i64 (R.getD i 0)):=HB10.out.cell (by rw [YH,HRX.out i hil];rfl)
           have e3:w10.cell? ⟨g,k,none⟩=some (.int .i64 (R.getD k 0)):=HB10.out.cell (by rw [YH,HRX.out k hkl];rfl)
           have hniN':(ni:Int)<(N:Int):=by omega
           have hnkN':(nk:Int)<(N:Int):=by omega
           clear HL10
           by_cases hlab:lab.getD ni 0=lab.getD nk 0
           ·have hlab':(lab.getD ni 0==lab.getD nk 0)=true:=by simpa using hlab
            by_cases hof:R.getD i 0=R.getD k 0
            ·have hof':(R.getD i 0 != R.getD k 0)=false:=by simpa using hof
             have HE:Hid (rowB l lab (v:Int) i V (k+1)=R):=HNO.out (.inr hof)
             clear HNO HYES HCE HST hof hlab HLX HRX
             generalize lab.getD ni 0=la at *
             generalize lab.getD nk 0=lb at *
             generalize R.getD i 0=ra at *
             generalize R.getD k 0=rb at *
             go_wp2
             go_quiet (fail)
             have HB11:Hid (Blk 3 (w10.drewN nq) g (R.map (Value.int .i64))):=HB10.out
             have HG11:Hid (w8.grownBy (w10.drewN nq) (some g)):=⟨HG10.out.os,HG10.out.tape,HG10.out.output,HG10.out.size,HG10.out.block⟩
             clear HB10 HG10
             generalize w10.drewN nq=w11 at HB11 HG11 ⊢
             clear e0 e1 e2 e3
             go_wp2
             exact⟨⟨k+1,HKI.out,by go_num,by rw [HE.out];exact HB11.out,HG11.out⟩,by simp [intOf];omega⟩
            ·have hof':(R.getD i 0 != R.getD k 0)=true:=by simpa using hof
             have HE:Hid (rowB l lab (v:Int) i V (k+1)=joinL (min (R.getD i 0) (R.getD k 0)) (max (R.getD i 0) (R.getD k 0)) R):=HYES.out (by rw [HCE.out,hlab'];rfl) hof
             clear HNO HYES HCE HST hof hlab HLX
             generalize lab.getD ni 0=la at *
             generalize lab.getD nk 0=lb at *
             generalize R.getD i 0=ra at *
             generalize R.getD k 0=rb at *
             go_wp2
             go_quiet (fail)
             have HB11:Hid (Blk 3 (w10.drewN nq) g (R.map (Value.int .i64))):=HB10.out
             have HG11:Hid (w8.grownBy (w10.drewN nq) (some g)):=⟨HG10.out.os,HG10.out.tape,HG10.out.output,HG10.out.size,HG10.out.block⟩
             have e4:(w10.drewN nq).cell? ⟨g,i,none⟩=some (.int .i64 ra):=e2
             have e5:(w10.drewN nq).cell? ⟨g,k,none⟩=some (.int .i64 rb):=e3
             clear HB10 HG10 e0 e1 e2 e3
             generalize w10.drewN nq=w11 at HB11 HG11 e4 e5 ⊢
             go_wp2
             go_quiet (fail)
             have HB12:Hid (Blk 3 (w11.drewN nq) g (R.map (Value.int .i64))):=HB11.out
             have HG12:Hid (w8.grownBy (w11.drewN nq) (some g)):=⟨HG11.out.os,HG11.out.tape,HG11.out.output,HG11.out.size,HG11.out.block⟩
             clear HB11 HG11 e4 e5
             generalize w11.drewN nq=w12 at HB12 HG12 ⊢
             rw [show (if rb<ra then rb else ra)=min ra rb by split <;> omega,show (if ra<rb then rb else ra)=max ra rb by split <;> omega]
             generalize min ra rb=x at HE ⊢
             generalize max ra rb=y at HE ⊢
             clear hof'
             go_wp2
             go_loopw [15] (fun tt wx=>∃ t:Nat,t≤l.length∧tt = .int .i64 t∧Hid (Blk 3 wx g ((joinP x y R t).map (Value.int .i64)))∧Hid (w8.grownBy wx (some g))) (fun t _=>l.length-(intOf t).toNat)
             case atStart=>exact⟨0,YN,rfl,by rw [Qj5];exact HB12.out,HG12.out⟩
             case round=>
              obtain⟨t,htl,rfl,HBt,HGt⟩:=hrel
              by_cases htl2:t<l.length
              ·have htl':(t:Int)<(l.length:Int):=by omega
               have hRt:t<R.length:=by rw [HRL.out];exact htl2
               have t0:wr.cell? ⟨g,t,none⟩=some (.int .i64 (R.getD t 0)):=HBt.out.cell (by rw [YH,Qja hRt];rfl)
               have f0:=HBt.out.frozen t
               have HTL:Hid (t<l.length):=htl2
               by_cases hty:R.getD t 0=y
               ·have hty':(R.getD t 0==y)=true:=by simpa using hty
                have HBn:Hid (Blk 3 (wr.setCell ⟨g,t,none⟩ (.int .i64 x)) g ((joinP x y R (t+1)).map (Value.int .i64))):=by
                 rw [Hid,Qft hRt,if_pos hty,List.map_set]
                 exact HBt.out.set t _
                have HGn:Hid (w8.grownBy (wr.setCell ⟨g,t,none⟩ (.int .i64 x)) (some g)):=Qmu HGt.out t _
                clear hty hRt HBt HGt
                generalize R.getD t 0=rt at *
                go_wp2
                exact⟨⟨t+1,HTL.out,by go_num,HBn,HGn⟩,by have:=HTL.out;simp [intOf];omega⟩
               ·have hty':(R.getD t 0==y)=false:=by simpa using hty
                have HBn:Hid (Blk 3 wr g ((joinP x y R (t+1)).map (Value.int .i64))):=by
                 rw [Hid,Qj6 hRt hty]
                 exact HBt.out
                clear hty hRt HBt
                generalize R.getD t 0=rt at *
                go_wp2
                exact⟨⟨t+1,HTL.out,by go_num,HBn,HGt⟩,by have:=HTL.out;simp [intOf];omega⟩
              ·obtain rfl:t=l.length:=by omega
               have htl':¬ (l.length:Int)<(l.length:Int):=by omega
               have HBn:Hid (Blk 3 wr g ((rowB l lab (v:Int) i V (k+1)).map (Value.int .i64))):=by
                have h1:=HBt.out
                rw [← HRL.out,Qj7] at h1
                rw [Hid,HE.out]
                exact h1
               clear HBt
               go_wp2
               exact⟨⟨k+1,HKI.out,by go_num,HBn,HGt⟩,by simp [intOf];omega⟩
           ·have hlab':(lab.getD ni 0==lab.getD nk 0)=false:=by simpa using hlab
            have HE:Hid (rowB l lab (v:Int) i V (k+1)=R):=HNO.out (.inl (by rw [HCE.out,hlab'];rfl))
            clear HNO HYES HCE HST hlab HLX HRX
            generalize lab.getD ni 0=la at *
            generalize lab.getD nk 0=lb at *
            generalize R.getD i 0=ra at *
            generalize R.getD k 0=rb at *
            go_wp2
            go_quiet (fail)
            have HB11:Hid (Blk 3 (w10.drewN nq) g (R.map (Value.int .i64))):=HB10.out
            have HG11:Hid (w8.grownBy (w10.drewN nq) (some g)):=⟨HG10.out.os,HG10.out.tape,HG10.out.output,HG10.out.size,HG10.out.block⟩
            clear HB10 HG10
            generalize w10.drewN nq=w11 at HB11 HG11 ⊢
            clear e0 e1 e2 e3
            go_wp2
            exact⟨⟨k+1,HKI.out,by go_num,by rw [HE.out];exact HB11.out,HG11.out⟩,by simp [intOf];omega⟩
        ·obtain rfl:k=i:=by omega
         have hki':¬ (k:Int)<(k:Int):=by omega
         go_wp2
         exact⟨⟨k+1,by omega,by go_num,by rw [HRW.out];exact HBk.out,HGk.out⟩,by simp [intOf];omega⟩
      ·obtain rfl:i=l.length:=by omega
       have hil':¬ (l.length:Int)<(l.length:Int):=by omega
       have hbr:Below g w4 wr:=hbv8.trans (Qje HGi.out YA (by omega))
       go_wp2
       exact⟨⟨v+1,by omega,by go_num,by rw [HNX.out];exact HBi.out,hbr⟩,by simp [intOf];omega⟩
    ·obtain rfl:v=N:=by omega
     have hvl:¬ (v:Int)<(v:Int):=by omega
     have hOL:=QfT v l v
     have hB2:=HBv.out
     have hbw2:=hbw5
     obtain⟨L,HL⟩:∃ L,Hid (ofAt v l v=L):=⟨_,rfl⟩
     rw [HL.out] at hB2 hOL
     clear HBv hbv r1 hlr hbw4 y0 y1 HB0 hbw5
     generalize wr=w2 at *
     go_wp2
     clear r0
     go_loopw [16,17] (fun ov iv wr=>∃ (j:Nat) (svs:List Value),j≤l.length∧iv = .int .i64 j∧Grp w2.heap.size ov svs (rcAt L l.length j) wr∧Below w2.heap.size w2 wr) (fun _ iv _=>l.length-(intOf iv).toNat)
     case atStart=>exact⟨0,[],YN,rfl,Grp.start _ _,YD⟩
     case round=>
      obtain⟨j,svs,hj,rfl,hGr,hb⟩:=hrel
      have hBr:=hB2.below hb hgl
      have hbw:Below w.heap.size w wr:=hbw2.trans (hb.mono (by omega))
      by_cases hlt:j<l.length
      ·have hjl:(j:Int)<(l.length:Int):=by omega
       have t0:wr.cell? ⟨g,j,none⟩=some (.int .i64 (L.getD j 0)):=hBr.cell (by rw [YH,YB (by omega)];simp [show j<L.length by omega])
       have HRC:Hid (rcAt L l.length (j+1)=if L.getD j 0=(j:Int) then rcAt L l.length j++[memAt L j l.length] else rcAt L l.length j):=rfl
       have hrl:=QfP L l.length j
       have hsl:=hGr.len
       have hs2:svs.length≤j:=by omega
       clear hsl hrl
       obtain⟨al,cl,rfl⟩:=Qag hGr.own
       by_cases he:L.getD j 0=(j:Int)
       ·have he':(L.getD j 0 != (j:Int))=false:=by simpa using he
        have HRN:Hid (rcAt L l.length (j+1)=rcAt L l.length j++[memAt L j l.length]):=by rw [Hid,HRC.out,if_pos he]
        have hszr:=hb.size
        clear HRC he
        generalize L.getD j 0=a at he' t0
        generalize wr=w4 at *
        go_wp2
        go_loopw [18,19] (fun cv uv wx=>∃ u:Nat,j≤u∧u≤l.length∧uv = .int .i64 u∧wx.ownsRow w4.heap.size 3 1 cv (memAt L j u).length ((memAt L j u).map (Value.int .i64))∧Below w4.heap.size w4 wx) (fun _ uv _=>l.length-(intOf uv).toNat)
        case atStart=>exact⟨j,YA,by omega,rfl,by rw [QeD];exact World.ownsRow_nil _ _ _ _,YD⟩
        case round=>
         obtain⟨u,hu1,hu2,rfl,hown,hbx⟩:=hrel
         have hBx:=hBr.below hbx (by omega)
         have hml:=QlX L j u
         obtain⟨ax,cx,rfl⟩:=Qag hown
         by_cases hul:u<l.length
         ·have hul':(u:Int)<(l.length:Int):=by omega
          have t1:wr.cell? ⟨g,u,none⟩=some (.int .i64 (L.getD u 0)):=hBx.cell (by rw [YH,YB (by omega)];simp [show u<L.length by omega])
          have HM:Hid (memAt L j (u+1)=if L.getD u 0=(j:Int) then memAt L j u++[(u:Int)] else memAt L j u):=QbC hu1
          by_cases hd:L.getD u 0=(j:Int)
          ·have hd':(L.getD u 0==(j:Int))=true:=by simpa using hd
           have HM2:Hid (memAt L j (u+1)=memAt L j u++[(u:Int)]):=by rw [Hid,HM.out,if_pos hd]
           clear HM hd
           generalize L.getD u 0=d at *
           generalize memAt L j u=R at *
           have hownA:=hown.alloc (.cells #[.int .i64 (u:Int)] 3)
           have hnews:=Qci wr (.int .i64 (u:Int)) 3
           have hone:∀ z∈[Value.int .i64 (u:Int)],z.oneCell'=true:=YO
           have hmx:R.length+1≤maxLen:=by unfold maxLen;omega
           have hby:(R.length+1)*8≤140737488355328:=by omega
           have hbs:w4.heap.size≤(wr.alloc (.cells #[.int .i64 (u:Int)] 3)).heap.size:=by have:=hbx.size;simp;omega
           have hlow:∀ k,(Value.slice ax R.length cx).ownBlock=some k→w4.heap.size≤k:=fun k hk=>(hown.lt k hk).1
           go_wp2_with (at_builtin;refine wpList_append_own_at _ rfl _ _ 27 rfl w4.heap.size 3 i0 (.int .i64 0) 1 8 Tryz.underlying27 hi hz0 hz1 hz2 rfl (by decide) (.slice ax R.length cx) _ _ rfl hownA ⟨wr.heap.size,0,none⟩ 1 1 [.int .i64 (u:Int)] rfl rfl hnews hone hmx hby hbs ?_)
           intro v6 w6 hown6 hg6 hnil6 hat6
           obtain⟨a6,m6,k6,rfl⟩:=QaB hown6
           have hb6:Below w4.heap.size w4 w6:=(hbx.alloc hbx.size _).grown hg6 hbs hlow
           have hown6':w6.ownsRow w4.heap.size 3 1 (.slice a6 m6 k6) (R++[(u:Int)]).length ((R++[(u:Int)]).map (Value.int .i64)):=by
            rw [YI,List.map_append];exact hown6
           clear hown6 hg6 hnil6 hat6 hownA hnews hone
           go_wp2
           exact⟨⟨u+1,by omega,by omega,by go_num,by rw [HM2.out];exact hown6',hb6⟩,by simp [intOf];omega⟩
          ·have hd':(L.getD u 0==(j:Int))=false:=by simpa using hd
           have HM2:Hid (memAt L j (u+1)=memAt L j u):=by rw [Hid,HM.out,if_neg hd]
           clear HM hd
           generalize L.getD u 0=d at *
           go_wp2
           exact⟨⟨u+1,by omega,by omega,by go_num,by rw [HM2.out];exact hown,hbx⟩,by simp [intOf];omega⟩
         ·obtain rfl:u=l.length:=by omega
          have hul':¬ (l.length:Int)<(l.length:Int):=by omega
          generalize memAt L j l.length=R at *
          have hLA:=World.ownsRow.alloc (hGr.go hbx).own (.cells #[.slice ax R.length cx] 27)
          have hnews:=Qci wr (.slice ax R.length cx) 27
          have hone:∀ z∈[Value.slice ax R.length cx],z.oneCell'=true:=YO
          have hmx:svs.length+1≤maxLen:=by unfold maxLen;omega
          have hby:(svs.length+1)*24≤140737488355328:=by omega
          have hbs:w2.heap.size≤(wr.alloc (.cells #[.slice ax R.length cx] 27)).heap.size:=by have:=hbx.size;simp;omega
          have hlow:∀ k,(Value.slice al svs.length cl).ownBlock=some k→w2.heap.size≤k:=fun k hk=>(hGr.own.lt k hk).1
          go_wp2_with (at_builtin;refine wpList_append_own_at _ rfl _ _ 35 rfl w2.heap.size 27 j0 (.slice none 0 0) 1 24 Tryz.underlying35 kj kz0 kz1 kz2 rfl (by decide) (.slice al svs.length cl) _ _ rfl hLA ⟨wr.heap.size,0,none⟩ 1 1 [.slice ax R.length cx] rfl rfl hnews hone hmx hby hbs ?_)
          intro v6 w6 hown6 hg6 hnil6 hat6
          have hGn:=hGr.add hszr hbx hown hown6 hg6 (by rw [World.size_alloc];exact hat6)
          obtain⟨a6,m6,k6,rfl⟩:=QaB hown6
          have hb6:Below w2.heap.size w2 w6:=((hb.trans (hbx.mono hszr)).alloc (by have:=hbx.size;omega) _).grown hg6 hbs hlow
          clear hown6 hg6 hnil6 hat6 hLA hnews hone
          go_wp2
          exact⟨⟨j+1,svs++[.slice ax R.length cx],by omega,by go_num,by rw [HRN.out];exact hGn,hb6⟩,by simp [intOf];omega⟩
       ·have he':(L.getD j 0 != (j:Int))=true:=by simpa using he
        have HRN:Hid (rcAt L l.length (j+1)=rcAt L l.length j):=by rw [Hid,HRC.out,if_neg he]
        clear HRC he
        generalize L.getD j 0=a at *
        go_wp2
        exact⟨⟨j+1,svs,by omega,by go_num,by rw [HRN.out];exact hGr,hb⟩,by simp [intOf];omega⟩
      ·obtain rfl:j=l.length:=by omega
       have hjl:¬ (l.length:Int)<(l.length:Int):=by omega
       go_wp2
       go_ret
       rw [HL.out]
       exact⟨_,rfl,⟨svs,_,hGr⟩,hbw⟩
end Go.Proofs.YtalflecmadacaaaGreat
