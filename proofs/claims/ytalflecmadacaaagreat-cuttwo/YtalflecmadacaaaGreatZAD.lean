import Derived.Deep.QuietTactic
import Derived.Deep.RegionWith
import Derived.Deep.RegionHeld3
import Derived.Test.YtalflecmadacaaaGreatZAC
import Derived.Test.YtalflecmadacaaaGreatZAB
import Derived.ProofKit
import Derived.BigQuiet
import Derived.Deep.DrawnRows
import Derived.Maps.AppendAt
import Derived.Test.YtalflecmadacaaaGreatZAA
set_option maxRecDepth 100000
set_option maxHeartbeats 8000000
namespace Go.Proofs.YtalflecmadacaaaGreat
open Go Go.Proofs Go.RowKit
def Lsts (n:Nat)(W:World)(sv:Value)(LL:List (List Int)):Prop:=
 ((∃ p c,sv = .slice p 0 c)∧LL=[])∨∃ b off cap,sv = .slice (some ⟨b,off,none⟩) LL.length cap∧b<n∧LL.length≤cap∧∀ (j:Nat) (x:List Int),LL[j]? = some x→∃ sx,W.cell? ⟨b,off+j,none⟩=some sx∧Ints n W sx x
theorem Lsts.below {n:Nat}{W W':World}{sv:Value}{LL:List (List Int)}(h:Lsts n W sv LL)(hb:Below n W W'):Lsts n W' sv LL:=by
 rcases h with h | ⟨b,off,cap,h1,h2,h3,h4⟩
 ·exact .inl h
 ·exact .inr ⟨b,off,cap,h1,h2,h3,fun j x hx=>by
   obtain⟨sx,h5,h6⟩:=h4 j x hx
   exact⟨sx,(hb.cell (p:=⟨b,_,none⟩) h2).trans h5,h6.below hb⟩⟩
theorem Lsts.mono {n m:Nat}{W:World}{sv:Value}{LL:List (List Int)}(h:Lsts n W sv LL)(hb:n≤m):Lsts m W sv LL:=by
 rcases h with h | ⟨b,off,cap,h1,h2,h3,h4⟩
 ·exact .inl h
 ·exact .inr ⟨b,off,cap,h1,Nat.lt_of_lt_of_le h2 hb,h3,fun j x hx=>by
   obtain⟨sx,h5,h6⟩:=h4 j x hx
   exact⟨sx,h5,h6.mono hb⟩⟩
theorem Lsts.go {W W':World}{sv:Value}{LL:List (List Int)}(h:Lsts W.heap.size W sv LL)(hb:Below W.heap.size W W'):Lsts W'.heap.size W' sv LL:=(h.below hb).mono hb.size
theorem Lsts.len {n:Nat}{W:World}{sv:Value}{LL:List (List Int)}(h:Lsts n W sv LL):∃ p c,sv = .slice p LL.length c:=by
 rcases h with ⟨⟨p,c,rfl⟩,rfl⟩ | ⟨b,off,cap,rfl,_⟩ <;> exact⟨_,_,rfl⟩
theorem Lsts.cellAt {n:Nat}{w:World}{p:Option Addr}{c:Nat}{L:List (List Int)}(h:Lsts n w (.slice p L.length c) L){j:Nat}(hj:j<L.length):
  ∃ b off,p=some ⟨b,off,none⟩∧b<n∧L.length≤c∧∃ px cx,Ints n w (.slice px L[j].length cx) L[j]∧w.cell? ⟨b,off+j,none⟩=some (.slice px L[j].length cx):=by
 rcases h with ⟨_,h0⟩ | ⟨b,off,cap,h1,h2,h3,h4⟩
 ·subst h0;simp at hj
 ·simp only [Value.slice.injEq] at h1
  obtain⟨rfl,_,rfl⟩:=h1
  obtain⟨sx,h5,h6⟩:=h4 j _ (YB hj)
  obtain⟨px,cx,rfl⟩:=h6.len
  exact⟨b,off,rfl,h2,h3,px,cx,h6,h5⟩
theorem Qfd {W:World}{base:Nat}{e:TypeId}{v:Value}{l:List Int}(h:W.ownsRow base e 1 v l.length (l.map (Value.int .i64))):Ints W.heap.size W v l:=by
 rcases h.2 with ⟨rfl,h0⟩ | ⟨g,cap,cur,rfl,hb,hg,hn,hc⟩
 ·have:l=[]:=List.eq_nil_of_length_eq_zero h0
  subst this
  exact .inl ⟨⟨_,_,rfl⟩,rfl⟩
 ·refine .inr ⟨g,0,cap,rfl,(Array.getElem?_eq_some_iff.1 hg).1,hn,fun j x hx=>?_⟩
  have:=h.cells (g:=g) rfl j (.int .i64 x) (by rw [YH,hx];rfl)
  rwa [Go.WideShapes.add_plain] at this
theorem Grp.lsts {h0:Nat}{lv:Value}{svs:List Value}{pre:List (List Int)}{W:World}(h:Grp h0 lv svs pre W):Lsts W.heap.size W lv pre:=by
 have hlen:=h.len
 rcases h.own.2 with ⟨rfl,h1⟩ | ⟨g,cap,cur,rfl,hb,hg,hn,hc⟩
 ·exact .inl ⟨⟨_,_,rfl⟩,List.eq_nil_of_length_eq_zero (by omega)⟩
 ·refine .inr ⟨g,0,cap,by rw [hlen],(Array.getElem?_eq_some_iff.1 hg).1,by omega,fun j x hx=>?_⟩
  have hj:=(YE hx).1
  obtain⟨sx,hs⟩:∃ sx,svs[j]? = some sx:=⟨_,YB (by omega)⟩
  refine⟨sx,?_,Qfd (h.inn j sx x hs hx)⟩
  have:=h.own.cells (g:=g) rfl j sx hs
  rwa [Go.WideShapes.add_plain] at this
open Go Go.ChangeShapes Go.WideShapes Go.ChangeAt Go.RowKit Go.Joins
theorem QlG {W:World}{v:Value}{H:Type}{x:DataW H × List MemPlace}{enc:TypeId × Value→H}{fuel:Nat}
  (hf:DataW.trod enc Tryz.prog W 0 (fun _=>true) true fuel 27 [v]=some x):∃ l:List Int,Ints W.heap.size W v l∧l.length≤9223372036854775807:=by
 rcases Deep.open_slice1 Tryz.underlying27 (by kernel_rfl) hf with ⟨hcs,_⟩ | ⟨ad,len,cp,m,n,V,D,Pl,hcs,_,hl,hm,hmm,hx,hc⟩
 ·simp only [List.cons.injEq,and_true] at hcs
  subst hcs
  exact⟨[],Vals.nil _ _ _ _,by decide⟩
 ·simp only [List.cons.injEq,and_true] at hcs
  subst hcs
  simp at hmm
  subst hmm
  unfold maxLen at hm
  have each:∀ i,i<len→∃ z:Int,W.cell? (ad.add i)=some (.int .i64 z):=fun i hi=>by
   obtain⟨h1,h2⟩:=hc i (by omega)
   obtain⟨z,e1,_⟩:=DataW.trod_int Tryz.underlying3 h2
   exact⟨z,by rw [h1];simpa using e1⟩
  by_cases h0:len=0
  ·subst h0
   exact⟨[],Vals.nil _ _ _ _,by decide⟩
  ·obtain⟨g,hg⟩:=Deep.choose_lt each
   refine⟨(List.range len).map g,?_,by simp;omega⟩
   obtain⟨b,off,spot⟩:=ad
   have hc0:=hg 0 (by omega)
   have hspot:spot=none:=by simpa [Addr.add] using World.cell?_spot hc0
   subst hspot
   rw [Go.WideShapes.add_plain] at hc0
   have hlt:b<W.heap.size:=World.block_lt_of_cell? W ⟨b,_,none⟩ hc0
   refine .inr ⟨b,off,m,by simp,hlt,by simp;omega,fun j y hy=>?_⟩
   have hj:j<len:=by simpa using (YE hy).1
   have hyj:y=g j:=by simpa [hj] using hy.symm
   subst hyj
   have h1:=hg j hj
   rw [Go.WideShapes.add_plain] at h1
   exact h1
theorem QoT {W:World}{v:Value}{H:Type}{d:DataW H}{p:List MemPlace}{enc:TypeId × Value→H}{base:Nat}{r:Reach}
  (_hv:Value.okWide Tryz.prog W r base 35 v) (h:DataW.Trod enc Tryz.prog W 0 (fun _=>true) true 35 v d p) :
  ∃ L:List (List Int),Lsts W.heap.size W v L∧L.length≤9223372036854775807∧∀ x∈L,x.length≤9223372036854775807:=by
 obtain⟨a,len0,cap,rfl⟩:=okWide_slice Tryz.underlying35 _hv
 obtain⟨fuel,hf0⟩:=h
 have hf:DataW.trod enc Tryz.prog W 0 (fun _=>true) true fuel 35 [.slice a len0 cap]=some (d,p):=by simpa [Value.cells] using hf0
 rcases Deep.open_slice1 Tryz.underlying35 (by kernel_rfl) hf with ⟨hcs,_⟩ | ⟨ad,len,cp,m,n,V,D,Pl,hcs,_,hl,hm,hmm,hx,hc⟩
 ·rw [List.cons.injEq] at hcs
  rw [hcs.1]
  exact⟨[],.inl ⟨⟨_,_,rfl⟩,rfl⟩,by decide,fun x hx=>by simp at hx⟩
 ·rw [List.cons.injEq] at hcs
  rw [hcs.1]
  clear hcs hf hf0
  simp at hmm
  subst hmm
  unfold maxLen at hm
  have each:∀ i,i<len→∃ z:List Int,∃ sx,W.cell? (ad.add i)=some sx∧Ints W.heap.size W sx z∧z.length≤9223372036854775807:=fun i hi=>by
   obtain⟨h1,h2⟩:=hc i (by omega)
   obtain⟨z,hz,hzl⟩:=QlG h2
   exact⟨z,V i,h1,hz,hzl⟩
  by_cases h0:len=0
  ·subst h0
   exact⟨[],.inl ⟨⟨_,_,rfl⟩,rfl⟩,by decide,fun x hx=>by simp at hx⟩
  ·obtain⟨g,hg⟩:=Deep.choose_lt each
   refine⟨(List.range len).map g,?_,by simp;omega,fun x hx=>by
    obtain⟨i,hi,rfl⟩:=List.mem_map.1 hx
    obtain⟨_,_,_,h3⟩:=hg i (List.mem_range.1 hi)
    exact h3⟩
   obtain⟨b,off,spot⟩:=ad
   obtain⟨s0,hc0,_⟩:=hg 0 (by omega)
   have hspot:spot=none:=by simpa [Addr.add] using World.cell?_spot hc0
   subst hspot
   rw [Go.WideShapes.add_plain] at hc0
   have hlt:b<W.heap.size:=World.block_lt_of_cell? W ⟨b,_,none⟩ hc0
   refine .inr ⟨b,off,m,by simp,hlt,by simp;omega,fun j y hy=>?_⟩
   have hj:j<len:=by simpa using (YE hy).1
   have hyj:y=g j:=by simpa [hj] using hy.symm
   subst hyj
   obtain⟨sx,h1,h2,_⟩:=hg j hj
   rw [Go.WideShapes.add_plain] at h1
   exact⟨sx,h1,h2⟩
theorem Qon {α:Type}{en:α→Value}{W:World}{a:Option Addr}{len cap:Nat}{H:Type}{x:DataW H × List MemPlace}{enc:TypeId × Value→H}{fuel:Nat}{t e:TypeId}
  (ht:Tryz.prog.underlying t=some (.slice e)) (hc1:Tryz.prog.cellsOf e=1) (hone:∀ n v y,DataW.trod enc Tryz.prog W 0 (fun _=>true) true n e [v]=some y→∃ z:α,v=en z)
  (hf:DataW.trod enc Tryz.prog W 0 (fun _=>true) true fuel t [.slice a len cap]=some x):∃ l:List α,Vals en W.heap.size W (.slice a len cap) l:=by
 rcases Deep.open_slice1 ht hc1 hf with ⟨hcs,_⟩ | ⟨ad,ln,cp,m,n,V,D,Pl,hcs,_,hl,hm,hmm,hx,hc⟩
 ·simp only [List.cons.injEq,and_true,Value.slice.injEq] at hcs
  obtain⟨rfl,rfl,rfl⟩:=hcs
  exact⟨[],Vals.nil _ _ _ _⟩
 ·simp only [List.cons.injEq,and_true,Value.slice.injEq] at hcs
  obtain⟨rfl,rfl,rfl⟩:=hcs
  simp at hmm
  subst hmm
  have each:∀ i,i<len→∃ z:α,W.cell? (ad.add i)=some (en z):=fun i hi=>by
   obtain⟨h1,h2⟩:=hc i (by omega)
   obtain⟨z,hz⟩:=hone _ _ _ h2
   exact⟨z,by rw [h1,hz]⟩
  by_cases h0:len=0
  ·subst h0
   exact⟨[],Vals.nil _ _ _ _⟩
  ·obtain⟨z0,hz0⟩:=each 0 (by omega)
   have:Inhabited α:=⟨z0⟩
   obtain⟨g,hg⟩:=Deep.choose_lt each
   refine⟨(List.range len).map g,?_⟩
   obtain⟨b,off,spot⟩:=ad
   have hc0:=hg 0 (by omega)
   have hspot:spot=none:=by simpa [Addr.add] using World.cell?_spot hc0
   subst hspot
   rw [Go.WideShapes.add_plain] at hc0
   have hlt:b<W.heap.size:=World.block_lt_of_cell? W ⟨b,_,none⟩ hc0
   refine .inr ⟨b,off,m,by simp,hlt,by simp;omega,fun j y hy=>?_⟩
   have hj:j<len:=by simpa using (YE hy).1
   have hyj:y=g j:=by simpa [hj] using hy.symm
   subst hyj
   have h1:=hg j hj
   rw [Go.WideShapes.add_plain] at h1
   exact h1
theorem QnM {W:World}{v:Value}{H:Type}{d:DataW H}{p:List MemPlace}{enc:TypeId × Value→H}{base:Nat}{r:Reach}
  (hv:Value.okWide Tryz.prog W r base 25 v) (h:DataW.Trod enc Tryz.prog W 0 (fun _=>true) true 25 v d p):∃ l:List Bool,Bools W.heap.size W v l:=by
 obtain⟨a,len,cap,rfl⟩:=okWide_slice Tryz.underlying25 hv
 obtain⟨fuel,hf⟩:=h
 refine Qon Tryz.underlying25 (by kernel_rfl) (fun n v y hy=>?_) (by simpa [Value.cells] using hf)
 obtain⟨z,e1,_⟩:=DataW.trod_bool Tryz.underlying4 hy
 exact⟨z,by simpa using e1⟩
def Qaj (v:Int):Nat→List Ed→List (Int × Int)
 | _,[]=>[]
 | p,e :: l=>(if e.1=v then [(e.2.1,(p:Int))] else if e.2.1=v then [(e.1,(p:Int))] else [])++Qaj v (p+1) l
def QaJ (N:Nat)(l:List Ed):List (List (Int × Int)):=(List.range N).map fun (v:Nat)=>Qaj (v:Int) 0 l
structure Stp where
 v:Int
 by_:Int
 next:Nat
 low:Int
 opn:Nat
structure WS where
 root:List Int
 from_:List Int
 depth:List Int
 block:List Int
 path:List Stp
 opn:List Int
def at_ (l:List Int)(v:Int):Int:=l.getD v.toNat 0
def lookW (s:WS)(init:List Stp)(top:Stp)(lk:Int × Int):WS:=
 if at_ s.depth lk.1<0 then { s with root:=s.root.set lk.1.toNat (at_ s.root top.v),from_:=s.from_.set lk.1.toNat top.v,depth:=s.depth.set lk.1.toNat (at_ s.depth top.v+1),path:=init++[top]++[⟨lk.1,lk.2,0,at_ s.depth top.v,s.opn.length⟩] }
 else if at_ s.depth lk.1<at_ s.depth top.v then { s with path:=init++[{ top with low:=min top.low (at_ s.depth lk.1) }],opn:=s.opn++[lk.2] }
 else { s with path:=init++[top] }
def Qay (s:WS)(init:List Stp)(last:Stp):WS:=
 match init.getLast? with
 | none=>{ s with path:=[] }
 | some top=>if last.low<at_ s.depth top.v then { s with path:=init.dropLast++[{ top with low:=min top.low last.low }] }
  else { s with path:=init,block:=(s.opn.drop last.opn).foldl (fun b p=>b.set p.toNat last.by_) s.block,opn:=s.opn.take last.opn }
def stepW (lk:List (List (Int × Int)))(s:WS):WS:=
 match s.path.getLast? with
 | none=>s
 | some top=>if top.next=(lk.getD top.v.toNat []).length then Qay s s.path.dropLast top else lookW s s.path.dropLast { top with next:=top.next+1 } ((lk.getD top.v.toNat []).getD top.next (0,0))
def runW (lk:List (List (Int × Int))):Nat→WS→WS
 | 0,s=>s
 | k+1,s=>runW lk k (stepW lk s)
def QaC (lk:List (List (Int × Int)))(fuel:Nat)(s:WS)(r:Nat):WS:=
 if 0≤s.depth.getD r 0 then s else runW lk fuel { s with root:=s.root.set r (r:Int),from_:=s.from_.set r (-1),depth:=s.depth.set r 0,path:=s.path++[⟨(r:Int),-1,0,0,0⟩] }
def Qau (N M:Nat):WS:=⟨List.replicate N 0,List.replicate N 0,List.replicate N (-1),List.replicate M 0,[],[]⟩
def walkW (N:Nat)(l:List Ed):WS:=(List.range N).foldl (QaC (QaJ N l) (4*(N+l.length)+4)) (Qau N l.length)
def encS (t:Stp):List Value:=[.int .i64 t.v,.int .i64 t.by_,.int .i64 (t.next:Int),.int .i64 t.low,.int .i64 (t.opn:Int)]
def flatP (P:List Stp):List Value:=P.flatMap encS
theorem Qbm:∀ P:List Stp,(flatP P).length=P.length*5
 | []=>rfl
 | t :: P=>by
  have:=Qbm P
  simp only [flatP,List.flatMap_cons,YI,List.length_cons] at this ⊢
  have h:(encS t).length=5:=rfl
  omega
theorem Qa7 (P Q:List Stp):flatP (P++Q)=flatP P++flatP Q:=by simp [flatP]
structure Lay where
 N:Nat
 M:Nat
 wb:Nat
 rb:Nat
 fb:Nat
 db:Nat
 kb:Nat
 h0:Nat
structure LayOK (a:Lay):Prop where
 w0:a.wb<a.h0
 r0:a.rb<a.h0
 f0:a.fb<a.h0
 d0:a.db<a.h0
 k0:a.kb<a.h0
 wr:a.wb≠a.rb
 wf:a.wb≠a.fb
 wd:a.wb≠a.db
 wk:a.wb≠a.kb
 rf:a.rb≠a.fb
 rd:a.rb≠a.db
 rk:a.rb≠a.kb
 fd:a.fb≠a.db
 fk:a.fb≠a.kb
 dk:a.db≠a.kb
def QiU (a:Lay)(lv pv ov:Value):List Value:=[lv,.slice (some ⟨a.rb,0,none⟩) a.N a.N,.slice (some ⟨a.fb,0,none⟩) a.N a.N,.slice (some ⟨a.db,0,none⟩) a.N a.N,.slice (some ⟨a.kb,0,none⟩) a.M a.M,pv,ov]
structure WB (a:Lay)(lv pv ov:Value)(s:WS)(W:World):Prop where
 blk:Blk 97 W a.wb (QiU a lv pv ov)
 root:Blk 3 W a.rb (s.root.map (Value.int .i64))
 frm:Blk 3 W a.fb (s.from_.map (Value.int .i64))
 dep:Blk 3 W a.db (s.depth.map (Value.int .i64))
 bls:Blk 3 W a.kb (s.block.map (Value.int .i64))
 way:W.ownsRow a.h0 144 5 pv s.path.length (flatP s.path)
 opn:W.ownsRow a.h0 3 1 ov s.opn.length (s.opn.map (Value.int .i64))
theorem WB.go {a:Lay}{lv pv ov:Value}{s:WS}{A B:World}(h:WB a lv pv ov s A)(hb:Below A.heap.size A B):WB a lv pv ov s B:=by
 have hk:∀ {e:TypeId} {size:Nat} {v:Value} {n:Nat} {xs:List Value},A.ownsRow a.h0 e size v n xs→B.ownsRow a.h0 e size v n xs:=fun {e size v n xs} ho=>by
  refine Qal ho (grown_below' hb none) ?_
  cases v.ownBlock with
  | none=>exact .inl rfl
  | some k=>exact .inr (by simp)
 exact⟨h.blk.go hb,h.root.go hb,h.frm.go hb,h.dep.go hb,h.bls.go hb,hk h.way,hk h.opn⟩
theorem WB.setRoot {a:Lay}{lv pv ov:Value}{s:WS}{W:World}(h:WB a lv pv ov s W)(hL:LayOK a)(i:Nat)(x:Int):WB a lv pv ov { s with root:=s.root.set i x } (W.setCell ⟨a.rb,i,none⟩ (.int .i64 x)):=by
 have hr:=h.root.set i (.int .i64 x)
 rw [← List.map_set] at hr
 exact⟨h.blk.other hL.wr _,hr,h.frm.other (Ne.symm hL.rf) _,h.dep.other (Ne.symm hL.rd) _,h.bls.other (Ne.symm hL.rk) _,Qag h.way hL.r0 _,Qag h.opn hL.r0 _⟩
theorem WB.setFrom {a:Lay}{lv pv ov:Value}{s:WS}{W:World}(h:WB a lv pv ov s W)(hL:LayOK a)(i:Nat)(x:Int):WB a lv pv ov { s with from_:=s.from_.set i x } (W.setCell ⟨a.fb,i,none⟩ (.int .i64 x)):=by
 have hr:=h.frm.set i (.int .i64 x)
 rw [← List.map_set] at hr
 exact⟨h.blk.other hL.wf _,h.root.other hL.rf _,hr,h.dep.other (Ne.symm hL.fd) _,h.bls.other (Ne.symm hL.fk) _,Qag h.way hL.f0 _,Qag h.opn hL.f0 _⟩
theorem WB.setDepth {a:Lay}{lv pv ov:Value}{s:WS}{W:World}(h:WB a lv pv ov s W)(hL:LayOK a)(i:Nat)(x:Int):WB a lv pv ov { s with depth:=s.depth.set i x } (W.setCell ⟨a.db,i,none⟩ (.int .i64 x)):=by
 have hr:=h.dep.set i (.int .i64 x)
 rw [← List.map_set] at hr
 exact⟨h.blk.other hL.wd _,h.root.other hL.rd _,h.frm.other hL.fd _,hr,h.bls.other (Ne.symm hL.dk) _,Qag h.way hL.d0 _,Qag h.opn hL.d0 _⟩
theorem WB.setBlock {a:Lay}{lv pv ov:Value}{s:WS}{W:World}(h:WB a lv pv ov s W)(hL:LayOK a)(i:Nat)(x:Int):WB a lv pv ov { s with block:=s.block.set i x } (W.setCell ⟨a.kb,i,none⟩ (.int .i64 x)):=by
 have hr:=h.bls.set i (.int .i64 x)
 rw [← List.map_set] at hr
 exact⟨h.blk.other hL.wk _,h.root.other hL.rk _,h.frm.other hL.fk _,h.dep.other hL.dk _,hr,Qag h.way hL.k0 _,Qag h.opn hL.k0 _⟩
theorem WB.top {a:Lay}{lv ov:Value}{s:WS}{W:World}{pb cap:Nat}{init:List Stp}{top:Stp}(h:WB a lv (.slice (some ⟨pb,0,none⟩) s.path.length cap) ov s W)(hp:s.path=init++[top]):
  W.cell? ⟨pb,init.length*5,none⟩=some (.int .i64 top.v)∧W.cell? ⟨pb,init.length*5+1,none⟩=some (.int .i64 top.by_)∧W.cell? ⟨pb,init.length*5+2,none⟩=some (.int .i64 (top.next:Int))∧W.cell? ⟨pb,init.length*5+3,none⟩=some (.int .i64 top.low)∧W.cell? ⟨pb,init.length*5+4,none⟩=some (.int .i64 (top.opn:Int)):=by
 have hl:s.path.length=init.length+1:=by rw [hp];simp
 have hx:flatP s.path=flatP init++encS top:=by rw [hp,Qa7];simp [flatP]
 have hfl:=Qbm init
 have at5:∀ (j:Nat) (u:Value),(encS top)[j]? = some u→W.cell? ⟨pb,init.length*5+j,none⟩=some u:=fun j u hu=>by
  have hj:=(YE hu).1
  have h5:(encS top).length=5:=rfl
  have:=h.way.cellAt (init.length*5+j) (by omega)
  rw [this,hx,List.getElem?_append_right (by omega),hfl,Nat.add_sub_cancel_left]
  exact hu
 exact⟨at5 0 _ rfl,at5 1 _ rfl,at5 2 _ rfl,at5 3 _ rfl,at5 4 _ rfl⟩
theorem Qls (a:Lay)(lv ov:Value)(s:WS)(init:List Stp)(top:Stp)(pb cap v u:Nat)(pl:Int)(hp:s.path=init++[top])(hv:top.v=(v:Int))(hvN:v<a.N)(huN:u<a.N)(hN:a.N≤1048576)(hD:s.depth.length=a.N)(h1:0≤s.depth.getD u 0)(h2:s.depth.getD v 0≤s.depth.getD u 0)(w:World)(h:WB a lv (.slice (some ⟨pb,0,none⟩) s.path.length cap) ov s w):
  Calls Tryz.prog 118 #[.pointer (some ⟨a.wb,0,none⟩),.pointer (some ⟨pb,init.length*5,none⟩),.agg #[.int .i64 (u:Int),.int .i64 pl]] w fun e w'=>e = .returned (.tuple #[])∧Below w.heap.size w w':=by
 have hmix:=mixed
 have hb1:Below w.heap.size w (w.alloc (.cells #[.int .i64 (u:Int),.int .i64 pl] 142)):=YD.alloc YA _
 have hX:Blk 142 (w.alloc (.cells #[.int .i64 (u:Int),.int .i64 pl] 142)) w.heap.size [.int .i64 (u:Int),.int .i64 pl]:=heap_alloc_new w _
 have h':=h.go hb1
 have b3:=h'.blk.cell (j:=3) rfl
 obtain⟨p0,-,-,-,-⟩:=h'.top hp
 rw [hv] at p0
 have x0:=hX.cell (j:=0) rfl
 have hvN':(v:Int)<(a.N:Int):=by omega
 have huN':(u:Int)<(a.N:Int):=by omega
 have t0:(w.alloc (.cells #[.int .i64 (u:Int),.int .i64 pl] 142)).cell? ⟨a.db,v,none⟩=some (.int .i64 (s.depth.getD v 0)):=h'.dep.cell (by rw [YH,YB (by omega)];simp [show v<s.depth.length by omega])
 have t1:(w.alloc (.cells #[.int .i64 (u:Int),.int .i64 pl] 142)).cell? ⟨a.db,u,none⟩=some (.int .i64 (s.depth.getD u 0)):=h'.dep.cell (by rw [YH,YB (by omega)];simp [show u<s.depth.length by omega])
 obtain⟨N,M,wb,rb,fb,db,kb,h0⟩:=a
 simp only at *
 generalize s.depth.getD u 0=du at *
 generalize s.depth.getD v 0=dv at *
 have h1':¬ du<0:=by omega
 have h2':¬ du<dv:=by omega
 generalize init.length*5=off at *
 clear h h' hD hX hp hv
 go_enter Tryz.func118,Tryz.ntmps118
 go_wp2
 go_quiet (fail)
 have hbq:Below w.heap.size w ((w.alloc (.cells #[.int .i64 (u:Int),.int .i64 pl] 142)).drewN nq):=Qaa hb1 nq
 generalize (w.alloc (.cells #[.int .i64 (u:Int),.int .i64 pl] 142)).drewN nq=w5 at hbq ⊢
 go_wp2
 refine bodyPost_end (results_none rfl _ _ _) rfl ?_
 exact⟨rfl,hbq⟩
theorem QgU (init:List Stp)(top:Stp)(x:Int):(flatP (init++[top])).set (init.length*5+3) (.int .i64 x)=flatP (init++[{ top with low:=x }]):=by
 rw [Qa7,Qa7,List.set_append_right _ _ (by rw [Qbm];omega),Qbm,Nat.add_sub_cancel_left]
 rfl
theorem QjT (init:List Stp)(top:Stp)(x:Nat):(flatP (init++[top])).set (init.length*5+2) (.int .i64 (x:Int))=flatP (init++[{ top with next:=x }]):=by
 rw [Qa7,Qa7,List.set_append_right _ _ (by rw [Qbm];omega),Qbm,Nat.add_sub_cancel_left]
 rfl
def QaD (pv ov:Value):Prop:=(pv.ownBlock=none∨pv.ownBlock≠ov.ownBlock)∧(ov.ownBlock=none∨ov.ownBlock≠pv.ownBlock)
theorem WB.setWay {a:Lay}{lv ov:Value}{s:WS}{W:World}{pb cap:Nat}(h:WB a lv (.slice (some ⟨pb,0,none⟩) s.path.length cap) ov s W)(hL:LayOK a)(hA:QaD (.slice (some ⟨pb,0,none⟩) s.path.length cap) ov){j:Nat}{u:Value}{P:List Stp}(hP:(flatP s.path).set j u=flatP P)(hl:P.length=s.path.length):WB a lv (.slice (some ⟨pb,0,none⟩) P.length cap) ov { s with path:=P } (W.setCell ⟨pb,j,none⟩ u):=by
 obtain⟨h1,h2⟩:=h.way.stored j u
 have hb:=h.way.lt pb rfl
 rw [hP] at h1
 have hlo:∀ {t:TypeId} {b:Nat} {vs:List Value},Blk t W b vs→b<a.h0→Blk t (W.setCell ⟨pb,j,none⟩ u) b vs:=fun hB hlt=>hB.other (by simp only;omega) _
 refine⟨hlo h.blk hL.w0 |> fun x=>?_,hlo h.root hL.r0,hlo h.frm hL.f0,hlo h.dep hL.d0,hlo h.bls hL.k0,by rw [hl];exact h1,Qal h.opn h2 hA.2⟩
 rw [hl]
 exact x
theorem WB.setOpn {a:Lay}{lv pv ov ov':Value}{s:WS}{A B:World}{P:List Int}(h:WB a lv pv ov s A)(hL:LayOK a)(hA:QaD pv ov)(hg:A.grownBy B ov.ownBlock)(hlow:∀ k,ov.ownBlock=some k→a.h0≤k)(hB:B.ownsRow a.h0 3 1 ov' P.length (P.map (Value.int .i64))):WB a lv pv ov' { s with opn:=P } (B.setCell ⟨a.wb,6,none⟩ ov'):=by
 have hb:∀ {t:TypeId} {b:Nat} {vs:List Value},Blk t A b vs→b<a.h0→Blk t B b vs:=fun {t b vs} hB hlt=>(hg.block b hB.lt (fun e=>by have:=hlow b e.symm;omega)).trans hB
 have hbl:=(hb h.blk hL.w0).set 6 ov'
 exact⟨hbl,(hb h.root hL.r0).other (Ne.symm hL.wr) _,(hb h.frm hL.f0).other (Ne.symm hL.wf) _,(hb h.dep hL.d0).other (Ne.symm hL.wd) _,(hb h.bls hL.k0).other (Ne.symm hL.wk) _,Qag (Qal h.way hg hA.1) hL.w0 _,Qag hB hL.w0 _⟩
def Lay.five (a:Lay)(k:Nat):Prop:=k=a.wb∨k=a.rb∨k=a.fb∨k=a.db∨k=a.kb
structure Wk (a:Lay)(A B:World):Prop where
 os:B.os=A.os
 tape:B.tape=A.tape
 output:B.output=A.output
 size:A.heap.size≤B.heap.size
 block:∀ k,k<a.h0→¬ a.five k→B.heap[k]? = A.heap[k]?
theorem Wk.refl (a:Lay)(A:World):Wk a A A:=⟨rfl,rfl,rfl,YA,fun _ _ _=>rfl⟩
theorem Wk.trans {a:Lay}{A B C:World}(h:Wk a A B)(k:Wk a B C):Wk a A C:=
 ⟨k.os.trans h.os,k.tape.trans h.tape,k.output.trans h.output,Nat.le_trans h.size k.size,fun i hi hn=>(k.block i hi hn).trans (h.block i hi hn)⟩
theorem Wk.of_below {a:Lay}{n:Nat}{A B:World}(h:Below n A B)(hn:a.h0≤n):Wk a A B:=⟨h.os,h.tape,h.output,h.size,fun k hk _=>h.block k (by omega)⟩
theorem Wk.grown {a:Lay}{A B:World}{row:Option Nat}(h:A.grownBy B row)(hs:a.h0≤A.heap.size)(hr:∀ k,row=some k→a.h0≤k):Wk a A B:=
 ⟨h.os,h.tape,h.output,h.size,fun k hk _=>h.block k (by omega) (fun e=>by have:=hr k e.symm;omega)⟩
theorem Wk.set {a:Lay}{A B:World}(h:Wk a A B){p:Addr}(hp:a.five p.block∨a.h0≤p.block)(u:Value):Wk a A (B.setCell p u):=
 h.trans ⟨rfl,rfl,rfl,by simp,fun k hk hn=>Below.heap_setCell _ _ _ _ (fun e=>by
  rcases hp with h1 | h1
  ·exact hn (e ▸ h1)
  ·omega)⟩
theorem Wk.below {a:Lay}{n:Nat}{A B:World}(h:Wk a A B)(hn:n≤a.h0)(h5:∀ k,k<n→¬ a.five k):Below n A B:=⟨h.os,h.tape,h.output,h.size,fun k hk=>h.block k (by omega) (h5 k hk)⟩
theorem Wk.blk {a:Lay}{A B:World}{t:TypeId}{g:Nat}{vs:List Value}(h:Wk a A B)(hB:Blk t A g vs)(hg:g<a.h0)(hn:¬ a.five g):Blk t B g vs:=(h.block g hg hn).trans hB
structure LK (a:Lay)(lv:Value)(lk:List (List (Int × Int)))(W:World):Prop where
 ex:∃ (lb sb:Nat) (svs cs:List Value),lv = .slice (some ⟨lb,0,none⟩) a.N a.N∧lb<a.h0∧¬ a.five lb∧sb<a.h0∧¬ a.five sb∧lk.length=a.N∧Blk 140 W lb svs∧Blk 142 W sb cs ∧
  ∀ (v:Nat) (xs:List (Int × Int)),lk[v]? = some xs→∃ off c,svs[v]? = some (.slice (some ⟨sb,off,none⟩) xs.length c)∧∀ (j:Nat) (x:Int × Int),xs[j]? = some x→cs[off+j*2]? = some (.int .i64 x.1)∧cs[off+j*2+1]? = some (.int .i64 x.2)
theorem LK.go {a:Lay}{lv:Value}{lk:List (List (Int × Int))}{A B:World}(h:LK a lv lk A)(k:Wk a A B):LK a lv lk B:=by
 obtain⟨lb,sb,svs,cs,h1,h2,h3,h4,h5,h6,h7,h8,h9⟩:=h.ex
 exact⟨lb,sb,svs,cs,h1,h2,h3,h4,h5,h6,k.blk h7 h2 h3,k.blk h8 h4 h5,h9⟩
def Src (W:World)(xv:Value)(m size:Nat)(news:List Value):Prop:=
 ((∃ c,xv = .slice none 0 c)∧m=0∧news=[])∨∃ ad c,xv = .slice (some ad) m c∧news.length=m*size∧(∀ j u,news[j]? = some u→W.cell? (ad.add j)=some u)∧∀ u∈news,u.oneCell'=true
theorem QeS {P:Program}(w:World)(base:Nat)(t ty e:TypeId)(i:TypeInfo)(z:Value)(size bytes:Nat)(ht:P.underlying t=some (.slice e))(hi:P.info? e=some i)(hz:i.zero=some z)
  (hsize:i.size=size) (hby:i.bytes=bytes) (hzs:z.cells.size=size) (hsz:0<size)
  (v:Value) (n:Nat) (xs:List Value) (hown:w.ownsRow base e size v n xs) (xv:Value) (m:Nat) (news:List Value) (hsrc:Src w xv m size news)
  (h63:n+m≤maxLen) (hbytes:(n+m)*bytes≤140737488355328) (hbase:base≤w.heap.size) :
  ∃ v' w',(Builtin.append_ #[t,t] ty #[v,xv]).run P w = .ok v' w'∧w'.ownsRow base e size v' (n+m) (xs++news)∧w.grownBy w' v.ownBlock∧(v'.ownBlock=v.ownBlock∨v'.ownBlock=some w.heap.size):=by
 rcases hsrc with ⟨⟨c,rfl⟩,rfl,rfl⟩ | ⟨ad,c,rfl,hl,hnews,h1⟩
 ·refine⟨v,w,?_,by simpa using hown,⟨rfl,rfl,rfl,YA,fun _ _ _=>rfl⟩,.inl rfl⟩
  rcases hown.2 with ⟨rfl,rfl⟩ | ⟨g,cap,cur,rfl,hbg,hg,hnc,_⟩
  ·simp [Builtin.append_,run_underlying ht,sizeOf,typeInfo,hi,Builtin.lenOf,Builtin.firstCells]
  ·have hnc':n≤cap:=hnc
   simp [Builtin.append_,run_underlying ht,sizeOf,typeInfo,hi,Builtin.lenOf,Builtin.firstCells,hnc',storeCells]
 ·obtain⟨v',w',h2,h3,h4,_,h5⟩:=run_append_own_at (P:=P) w base t ty e i z size bytes ht hi hz hsize hby hzs hsz v n xs hown ad m c news hl hnews h1 h63 hbytes hbase
  exact⟨v',w',h2,h3,h4,h5⟩
theorem Qap {P:Program}{ops:Array Oper}{o:Oper}{a:Act}{w:World}{K:Act→World→Prop}{Q:Exit→Act→World→Prop}{E:Prop}
  (hgd:o.guard=none) (s x:Operand) (t:TypeId) (ho:o.op = .call { callee:=.builtin .append,args:=#[s,x],argTypes:=#[t,t] })
  (base:Nat) (e:TypeId) (i:TypeInfo) (z:Value) (size bytes:Nat) (ht:P.underlying t=some (.slice e)) (hi:P.info? e=some i) (hz:i.zero=some z)
  (hsize:i.size=size) (hby:i.bytes=bytes) (hzs:z.cells.size=size) (hsz:0<size)
  (v:Value) (n:Nat) (xs:List Value) (hs:a.eval s=v) (hown:w.ownsRow base e size v n xs)
  (xv:Value) (m:Nat) (news:List Value) (hx:a.eval x=xv) (hsrc:Src w xv m size news)
  (h63:n+m≤maxLen) (hbytes:(n+m)*bytes≤140737488355328) (hbase:base≤w.heap.size)
  (h:∀ v' w',w'.ownsRow base e size v' (n+m) (xs++news)→w.grownBy w' v.ownBlock→(v'.ownBlock=v.ownBlock∨v'.ownBlock=some w.heap.size)→K (a.put o.dst v') w') :
  if Region.wanted o (yielded ops a.tmps)=true then Oper.wp P o a w K Q else E:=by
 have hw:Region.wanted o (yielded ops a.tmps)=true:=by simp [Region.wanted,hgd]
 rw [if_pos hw]
 obtain⟨v',w',hr,h2,h3,h5⟩:=QeS (P:=P) w base t o.type e i z size bytes ht hi hz hsize hby hzs hsz v n xs hown xv m news hsrc h63 hbytes hbase
 unfold Oper.wp
 simp [execOp,ho,resolve,invoke,builtin,hs,hx,hr,Result.andThen]
 exact h v' w' h2 h3 h5
theorem WB.setPth {a:Lay}{lv pv pv' ov:Value}{s:WS}{A B:World}{P:List Stp}(h:WB a lv pv ov s A)(hL:LayOK a)(hA:QaD pv ov)(hg:A.grownBy B pv.ownBlock)(hlow:∀ k,pv.ownBlock=some k→a.h0≤k)(hB:B.ownsRow a.h0 144 5 pv' P.length (flatP P)):WB a lv pv' ov { s with path:=P } (B.setCell ⟨a.wb,5,none⟩ pv'):=by
 have hb:∀ {t:TypeId} {b:Nat} {vs:List Value},Blk t A b vs→b<a.h0→Blk t B b vs:=fun {t b vs} hB hlt=>(hg.block b hB.lt (fun e=>by have:=hlow b e.symm;omega)).trans hB
 have hbl:=(hb h.blk hL.w0).set 5 pv'
 exact⟨hbl,(hb h.root hL.r0).other (Ne.symm hL.wr) _,(hb h.frm hL.f0).other (Ne.symm hL.wf) _,(hb h.dep hL.d0).other (Ne.symm hL.wd) _,(hb h.bls hL.k0).other (Ne.symm hL.wk) _,Qag hB hL.w0 _,Qag (Qal h.opn hg hA.2) hL.w0 _⟩
theorem Qcv {pv pv' ov:Value}{n:Nat}(hA:QaD pv ov)(hat:pv'.ownBlock=pv.ownBlock∨pv'.ownBlock=some n)(hov:∀ k,ov.ownBlock=some k→k<n):QaD pv' ov:=by
 rcases hat with h | h
 ·unfold QaD;rw [h];exact hA
 ·refine⟨.inr ?_,?_⟩
  ·rw [h]
   intro e
   have:=hov n e.symm
   omega
  ·rw [h]
   cases ho:ov.ownBlock with
   | none=>exact .inl rfl
   | some k=>
    have:=hov k ho
    exact .inr (by simp;omega)
theorem Qfq {pv ov:Value}(h:QaD pv ov):QaD ov pv:=⟨h.2,h.1⟩
theorem Qoa:(Tryz.prog.info? 144).map (fun i=>(i.zero,i.size,i.bytes))=some (some (.agg #[.int .i64 0,.int .i64 0,.int .i64 0,.int .i64 0,.int .i64 0]),5,40):=by kernel_rfl
theorem news_step' (W:World)(y0 y1 y2 y3 y4:Value)(h0:y0.oneCell'=true)(h1:y1.oneCell'=true)(h2:y2.oneCell'=true)(h3:y3.oneCell'=true)(h4:y4.oneCell'=true):Src (W.alloc (.cells #[y0,y1,y2,y3,y4] 144)) (.slice (some ⟨W.heap.size,0,none⟩) 1 1) 1 5 [y0,y1,y2,y3,y4]:=by
 refine .inr ⟨⟨W.heap.size,0,none⟩,1,rfl,rfl,fun j u hu=>?_,fun u hu=>?_⟩
 ·have hb:Blk 144 (W.alloc (.cells #[y0,y1,y2,y3,y4] 144)) W.heap.size [y0,y1,y2,y3,y4]:=heap_alloc_new W _
  have e:(⟨W.heap.size,0,none⟩:Addr).add j=⟨W.heap.size,j,none⟩:=by
   simp only [Addr.add]
   by_cases h:j=0
   ·subst h;rfl
   ·simp [h]
  rw [e]
  exact hb.cell hu
 ·simp at hu
  rcases hu with rfl | rfl | rfl | rfl | rfl <;> assumption
end Go.Proofs.YtalflecmadacaaaGreat
