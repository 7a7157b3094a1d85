import Derived.Test.YtalflecmadacaaaGreatZAA
import Derived.Deep.Slices
import Derived.Lib.SmallJoins
import Derived.SizedLaws
import Derived.MakeChecks
import Derived.ProofKit
import Derived.OpenShut
import Derived.ChangeOld
import Derived.ChangeMaps5
import Derived.Test.YtalflecmadacaaaGreatRows
import Derived.OwnWalk
import Derived.Laws.OwnMore
import Derived.Maps.AppendAt
set_option maxRecDepth 100000
set_option maxHeartbeats 8000000
namespace Go.Proofs.YtalflecmadacaaaGreat
open Go Go.Proofs Go.RowKit
def Vals {α:Type}(enc:α→Value)(n:Nat)(W:World)(sv:Value)(l:List α):Prop:=
 ((∃ p c,sv = .slice p 0 c)∧l=[])∨∃ b off cap,sv = .slice (some ⟨b,off,none⟩) l.length cap∧b<n∧l.length≤cap∧∀ j x,l[j]? = some x→W.cell? ⟨b,off+j,none⟩=some (enc x)
abbrev Ints (n:Nat) (W:World) (sv:Value) (l:List Int):Prop:=Vals (Value.int .i64) n W sv l
abbrev Bools (n:Nat) (W:World) (sv:Value) (l:List Bool):Prop:=Vals Value.bool n W sv l
section
variable {α:Type} {enc:α→Value}
theorem Vals.below {n:Nat}{W W':World}{sv:Value}{l:List α}(h:Vals enc n W sv l)(hb:Below n W W'):Vals enc n W' sv l:=by
 rcases h with h | ⟨b,off,cap,h1,h2,h3,h4⟩
 ·exact .inl h
 ·exact .inr ⟨b,off,cap,h1,h2,h3,fun j x hx=>(hb.cell (p:=⟨b,_,none⟩) h2).trans (h4 j x hx)⟩
theorem Vals.mono {n m:Nat}{W:World}{sv:Value}{l:List α}(h:Vals enc n W sv l)(hb:n≤m):Vals enc m W sv l:=by
 rcases h with h | ⟨b,off,cap,h1,h2,h3,h4⟩
 ·exact .inl h
 ·exact .inr ⟨b,off,cap,h1,Nat.lt_of_lt_of_le h2 hb,h3,h4⟩
theorem Vals.go {W W':World}{sv:Value}{l:List α}(h:Vals enc W.heap.size W sv l)(hb:Below W.heap.size W W'):Vals enc W'.heap.size W' sv l:=(h.below hb).mono hb.size
theorem Vals.len {n:Nat}{W:World}{sv:Value}{l:List α}(h:Vals enc n W sv l):∃ p c,sv = .slice p l.length c:=by
 rcases h with ⟨⟨p,c,rfl⟩,rfl⟩ | ⟨b,off,cap,rfl,_⟩ <;> exact⟨_,_,rfl⟩
theorem Vals.nil (n:Nat)(W:World)(p:Option Addr)(c:Nat):Vals enc n W (.slice p 0 c) []:=.inl ⟨⟨_,_,rfl⟩,rfl⟩
theorem Vals.open {w:World}{p:Option Addr}{c:Nat}{l:List α}{n:Nat}(h:Vals enc n w (.slice p l.length c) l){j:Nat}(hj:j<l.length):
  ∃ b off,p=some ⟨b,off,none⟩∧b<n∧l.length≤c∧∀ W',Below n w W'→∀ i (hi:i<l.length),W'.cell? ⟨b,off+i,none⟩=some (enc l[i]):=by
 rcases h with ⟨⟨p,c,h1⟩,rfl⟩ | ⟨b,off,cap,h1,h2,h3,h4⟩
 ·simp at hj
 ·simp only [Value.slice.injEq] at h1
  obtain⟨rfl,_,rfl⟩:=h1
  exact⟨b,off,rfl,h2,h3,fun W' hW i hi=>(hW.cell (p:=⟨b,_,none⟩) h2).trans (h4 i l[i] (YB hi))⟩
end
open Go Go.ChangeShapes Go.WideShapes Go.ChangeAt Go.RowKit Go.Joins
theorem own:ownKnob Tryz.prog.godebug=none:=by kernel_rfl
theorem QhR:laidOutB Tryz.prog=true:=by kernel_rfl
theorem QnD {W:World}{sv:Value}{H:Type}{x:DataW H × List MemPlace}{enc:TypeId × Value→H}{fuel:Nat}
  (hf:DataW.trod enc Tryz.prog W 0 (fun _=>true) true fuel 22 [sv]=some x):∃ l:List Ed,Edges W.heap.size W sv l:=by
 rcases Deep.open_slice Tryz.underlying22 hf with ⟨hcs,_⟩ | ⟨ad,len,cap,m,n,D,Pl,hcs,_,hl,hm,hmm,hx,hc⟩
 ·simp only [List.cons.injEq,and_true] at hcs
  subst hcs
  exact⟨[],Edges.nil _ _ _ _⟩
 ·simp only [List.cons.injEq,and_true] at hcs
  subst hcs
  simp at hmm
  subst hmm
  have ce:Tryz.prog.cellsOf 50=3:=by kernel_rfl
  have each:∀ i,i<len→∃ e:Ed,W.cell? (ad.add (i*3))=some (.int .i64 e.1)∧W.cell? (ad.add (i*3+1))=some (.int .i64 e.2.1)∧W.cell? (ad.add (i*3+2))=some (.int .i64 e.2.2):=fun i hi=>by
   obtain⟨cs',h1,h2⟩:=hc i (by omega)
   rw [ce] at h1
   obtain⟨_,hlen,hcell⟩:=World.cells?_some h1
   obtain⟨y0,y1,y2,k,_,_,g0,g1,g2⟩:=Deep.trod_struct3 Tryz.underlying50 h2
   match cs',hlen with
   | [v0,v1,v2],_=>
    have e0:=hcell 0 (by omega)
    have e1:=hcell 1 (by omega)
    have e2:=hcell 2 (by omega)
    rw [Deep.add_add] at e0 e1 e2
    have k0:DataW.trod enc Tryz.prog W 0 (fun _=>true) true k 3 [v0]=some y0:=g0
    have k1:DataW.trod enc Tryz.prog W 0 (fun _=>true) true k 3 [v1]=some y1:=g1
    have k2:DataW.trod enc Tryz.prog W 0 (fun _=>true) true k 2 [v2]=some y2:=g2
    obtain⟨z0,a0,_,_⟩:=DataW.trod_int Tryz.underlying3 k0
    obtain⟨z1,a1,_,_⟩:=DataW.trod_int Tryz.underlying3 k1
    obtain⟨z2,a2,_,_⟩:=DataW.trod_int Tryz.underlying2 k2
    simp only [List.cons.injEq,and_true] at a0 a1 a2
    subst a0;subst a1;subst a2
    exact⟨(z0,z1,z2),by simpa using e0,by simpa using e1,by simpa using e2⟩
  obtain⟨g,hg⟩:=Deep.choose_lt each
  refine⟨(List.range len).map g,?_⟩
  by_cases h0:len=0
  ·subst h0
   exact .inl ⟨⟨_,_,rfl⟩,by simp⟩
  ·obtain⟨b,off,spot⟩:=ad
   have hc0:=(hg 0 (by omega)).1
   have hspot:spot=none:=by simpa [Addr.add] using World.cell?_spot hc0
   subst hspot
   rw [Go.WideShapes.add_plain] at hc0
   have hlt:b<W.heap.size:=World.block_lt_of_cell? W ⟨b,_,none⟩ hc0
   refine .inr ⟨b,off,m,by simp,hlt,by simp;omega,fun j y hy=>?_⟩
   have hj:j<len:=by simpa using (YE hy).1
   have hyj:y=g j:=by simpa [hj] using hy.symm
   subst hyj
   obtain⟨h1,h2,h3⟩:=hg j hj
   rw [Go.WideShapes.add_plain] at h1 h2 h3
   exact⟨h1,h2,h3⟩
theorem Qnw {W:World}{v:Value}{H:Type}{d:DataW H}{p:List MemPlace}{enc:TypeId × Value→H}{base:Nat}{r:Reach}
  (hv:Value.okWide Tryz.prog W r base 24 v) (h:DataW.Trod enc Tryz.prog W 0 (fun _=>true) true 24 v d p) :
  ∃ (n:Int) (sv:Value) (l:List Ed),v = .agg #[.int .i64 n,sv]∧Edges W.heap.size W sv l:=by
 obtain⟨v0,v1,y0,y1,k,rfl,_,_,h0,h1⟩:=open_agg2 Tryz.underlying24 (by kernel_rfl) (by kernel_rfl) hv h
 have k0:DataW.trod enc Tryz.prog W 0 (fun _=>true) true k 3 [v0]=some y0:=h0
 have k1:DataW.trod enc Tryz.prog W 0 (fun _=>true) true k 22 [v1]=some y1:=h1
 obtain⟨z,a,_,_⟩:=DataW.trod_int Tryz.underlying3 k0
 simp only [List.cons.injEq,and_true] at a
 subst a
 obtain⟨l,hl⟩:=QnD k1
 exact⟨z,v1,l,rfl,hl⟩
def nbOf (e:Ed)(x:Int):List Int:=if e.1=x then [e.2.1] else if e.2.1=x then [e.1] else []
def nb (l:List Ed)(x:Int):List Int:=l.flatMap fun e=>nbOf e x
theorem Qb4 {l:List Ed}{j:Nat}(h:j<l.length)(x:Int):nb (l.take (j+1)) x=nb (l.take j) x++nbOf l[j] x:=by
 unfold nb
 rw [List.take_add_one,YB h,List.flatMap_append]
 simp
theorem QgI (l:List Ed)(x:Int)(j:Nat):(nb (l.take j) x).length≤(nb l x).length:=by
 have h:nb l x=nb (l.take j) x++nb (l.drop j) x:=by unfold nb;rw [← List.flatMap_append,List.take_append_drop]
 rw [h,YI];omega
theorem Qna (e:Ed)(x:Int):(nbOf e x).length≤1:=by unfold nbOf;split <;> (try split) <;> simp
theorem QaO (x:Int):∀ l:List Ed,(nb l x).length≤l.length
 | []=>YA
 | e :: l=>by
  have:=QaO x l;have:=Qna e x
  unfold nb at *
  rw [List.flatMap_cons,YI,List.length_cons];omega
theorem mem_nb {l:List Ed}{x y:Int}:y∈nb l x↔∃ e∈l,(e.1=x∧e.2.1=y)∨(e.1≠x∧e.2.1=x∧e.1=y):=by
 unfold nb
 rw [List.mem_flatMap]
 constructor
 ·rintro⟨e,he,hy⟩
  refine⟨e,he,?_⟩
  unfold nbOf at hy
  split at hy
  ·left;exact⟨by assumption,(YF hy).symm⟩
  ·split at hy
   ·right;exact⟨by assumption,by assumption,(YF hy).symm⟩
   ·cases hy
 ·rintro⟨e,he,h | h⟩
  ·exact⟨e,he,by unfold nbOf;rw [if_pos h.1,h.2];exact List.mem_singleton.2 rfl⟩
  ·exact⟨e,he,by unfold nbOf;rw [if_neg h.1,if_pos h.2.1,h.2.2];exact List.mem_singleton.2 rfl⟩
theorem QaZ {n:Int}{l:List Ed}(hR:RightG n l){x y:Int}(h:y∈nb l x):x∈nb l y∧0≤y∧y<n∧y≠x:=by
 obtain⟨e,he,hc⟩:=mem_nb.1 h
 have hok:=hR.each e he
 unfold okE at hok
 refine⟨mem_nb.2 ⟨e,he,?_⟩,?_⟩
 ·omega
 ·omega
theorem Qco {n:Int}{l:List Ed}(hR:RightG n l)(x:Int):(nb l x).Pairwise (· < ·):=by
 unfold nb
 rw [List.pairwise_flatMap]
 refine⟨fun e _=>?_,?_⟩
 ·unfold nbOf
  split
  ·exact List.pairwise_singleton _ _
  ·split
   ·exact List.pairwise_singleton _ _
   ·exact List.Pairwise.nil
 ·refine hR.rise.imp_of_mem fun {a b} ha hb hlo y hy z hz=>?_
  have h1:=(hR.each a ha).2
  have h2:=(hR.each b hb).2
  rw [lo_iff] at hlo
  unfold nbOf at hy hz
  split at hy
  ·have:=YF hy
   split at hz
   ·have:=YF hz;omega
   ·split at hz
    ·have:=YF hz;omega
    ·cases hz
  ·split at hy
   ·have:=YF hy
    split at hz
    ·have:=YF hz;omega
    ·split at hz
     ·have:=YF hz;omega
     ·cases hz
   ·cases hy
def degS (l:List Ed):Nat→Nat
 | 0=>0
 | v+1=>degS l v+(nb l (v:Int)).length
theorem QiS:∀ v,degS [] v=0
 | 0=>rfl
 | v+1=>by rw [degS,QiS v];rfl
def Qdw (e:Ed)(v:Nat):Nat:=(if e.1<(v:Int) then 1 else 0)+(if e.2.1<(v:Int) then 1 else 0)
theorem Qg2 {e:Ed}{l:List Ed}(h0:0≤e.1)(h1:0≤e.2.1)(hne:e.1≠e.2.1):∀ v,degS (e :: l) v=Qdw e v+degS l v
 | 0=>by
  unfold Qdw
  rw [if_neg (by omega),if_neg (by omega)]
  rfl
 | v+1=>by
  rw [degS,degS,Qg2 h0 h1 hne v]
  have hl:(nb (e :: l) (v:Int)).length=(nbOf e (v:Int)).length+(nb l (v:Int)).length:=by unfold nb;rw [List.flatMap_cons,YI]
  rw [hl]
  have:Qdw e (v+1)=Qdw e v+(nbOf e (v:Int)).length:=by
   unfold Qdw nbOf
   by_cases a:e.1=(v:Int)
   ·rw [if_pos a]
    simp only [List.length_singleton]
    split <;> split <;> split <;> split <;> omega
   ·rw [if_neg a]
    by_cases b:e.2.1=(v:Int)
    ·rw [if_pos b]
     simp only [List.length_singleton]
     split <;> split <;> split <;> split <;> omega
    ·rw [if_neg b]
     simp only [List.length_nil]
     split <;> split <;> split <;> split <;> omega
  omega
theorem QbR {n:Nat}:∀ {l:List Ed},(∀ e∈l,okE (n:Int) e)→degS l n=2*l.length
 | [],_=>QiS n
 | e :: l,h=>by
  have he:=h e (List.mem_cons_self ..)
  unfold okE at he
  rw [Qg2 (by omega) (by omega) (by omega),QbR fun x hx=>h x (List.mem_cons_of_mem _ hx),List.length_cons]
  unfold Qdw
  rw [if_pos (by omega),if_pos (by omega)]
  omega
theorem Qct {l:List Ed}{v n:Nat}(h:v≤n):degS l v≤degS l n:=by
 induction h with
 | refl=>exact YA
 | step _ ih=>rw [degS];omega
def Blk (t:TypeId)(W:World)(g:Nat)(vs:List Value):Prop:=W.heap[g]? = some (.cells vs.toArray t (0,0))
theorem Blk.lt {t:TypeId}{W:World}{g:Nat}{vs:List Value}(h:Blk t W g vs):g<W.heap.size:=(Array.getElem?_eq_some_iff.1 h).1
theorem Blk.cell {t:TypeId}{W:World}{g:Nat}{vs:List Value}(h:Blk t W g vs){j:Nat}{v:Value}(hj:vs[j]? = some v):W.cell? ⟨g,j,none⟩=some v:=by
 unfold Blk at h
 simp only [World.cell?,h]
 simpa using hj
theorem Blk.frozen {t:TypeId}{W:World}{g:Nat}{vs:List Value}(h:Blk t W g vs)(j:Nat):W.frozen? ⟨g,j,none⟩=false:=by
 unfold Blk at h
 simp [World.frozen?,h]
theorem Blk.below {t:TypeId}{A B:World}{g n:Nat}{vs:List Value}(h:Blk t A g vs)(hb:Below n A B)(hg:g<n):Blk t B g vs:=(hb.block g hg).trans h
theorem Blk.go {t:TypeId}{A B:World}{g:Nat}{vs:List Value}(h:Blk t A g vs)(hb:Below A.heap.size A B):Blk t B g vs:=h.below hb h.lt
theorem Blk.set {t:TypeId}{W:World}{g:Nat}{vs:List Value}(h:Blk t W g vs)(j:Nat)(v:Value):Blk t (W.setCell ⟨g,j,none⟩ v) g (vs.set j v):=by
 obtain⟨hlt,hk⟩:=Array.getElem?_eq_some_iff.1 h
 show (W.heap.modify g _)[g]? = _
 rw [Array.getElem?_eq_getElem (by rw [Array.size_modify];exact hlt),Array.getElem_modify_self,hk]
 simp
theorem Blk.other {t:TypeId}{W:World}{g:Nat}{vs:List Value}(h:Blk t W g vs){p:Addr}(hp:g≠p.block)(v:Value):Blk t (W.setCell p v) g vs:=(Below.heap_setCell _ _ _ _ hp).trans h
theorem Blk.made {t:TypeId}{W:World}{g n k base:Nat}{z:Value}(h:W.ownsRow base t k (.slice (some ⟨g,0,none⟩) n n) n (madeCells z.cells (n*k)).toList):Blk t W g (madeCells z.cells (n*k)).toList:=by
 obtain⟨h1,h2⟩:=h
 rcases h2 with ⟨h2,_⟩ | ⟨g',cap,cur,e,_,hb,_,_,hsz,ht⟩
 ·cases h2
 ·simp only [Value.slice.injEq,Option.some.injEq,Addr.mk.injEq] at e
  obtain⟨⟨rfl,_,_⟩,_,rfl⟩:=e
  unfold Blk
  rw [hb]
  congr 2
  apply Array.toList_inj.1
  rw [List.take_of_length_le (by simp [hsz])] at ht
  rw [ht]
def flat (l:List Ed):List Value:=l.flatMap encE
theorem QbF (e:Ed)(l:List Ed):flat (e :: l) = .int .i64 e.1 :: .int .i64 e.2.1 :: .int .i64 e.2.2 :: flat l:=rfl
theorem QeE:∀ {l:List Ed} {j:Nat} {x:Ed},l[j]? = some x→(flat l)[j*3]? = some (.int .i64 x.1)∧(flat l)[j*3+1]? = some (.int .i64 x.2.1)∧(flat l)[j*3+2]? = some (.int .i64 x.2.2)
 | [],j,x,h=>by simp at h
 | e :: l,0,x,h=>by simp at h;subst h;rw [QbF];simp
 | e :: l,j+1,x,h=>by
  rw [QbF,show (j+1)*3=j*3+1+1+1 by omega]
  simpa using QeE (l:=l) (j:=j) (by simpa using h)
theorem QiP:∀ (l:List Ed) (j:Nat) (x:Ed),(((flat l).set (j*3) (.int .i64 x.1)).set (j*3+1) (.int .i64 x.2.1)).set (j*3+2) (.int .i64 x.2.2)=flat (l.set j x)
 | [],j,x=>by simp [flat]
 | e :: l,0,x=>by simp [QbF]
 | e :: l,j+1,x=>by
  rw [QbF,List.set_cons_succ,QbF,← QiP l j x,show (j+1)*3=j*3+1+1+1 by omega]
  simp
theorem QgR:∀ n:Nat,flat (List.replicate n (0,0,0))=List.replicate (n*3) (.int .i64 0)
 | 0=>rfl
 | n+1=>by rw [List.replicate_succ,QbF,QgR n,show (n+1)*3=n*3+1+1+1 by omega];rfl
theorem QlU (n:Nat):(madeCells (Value.agg #[.int .i64 0,.int .i64 0,.int .i64 0]).cells (n*3)).toList=flat (List.replicate n (0,0,0)):=by
 rw [QgR]
 have hz:(Value.agg #[.int .i64 0,.int .i64 0,.int .i64 0]).cells = #[.int .i64 0,.int .i64 0,.int .i64 0]:=by simp [Value.cells]
 rw [hz]
 apply List.ext_getElem
 ·simp [madeCells]
 ·intro i h1 h2
  have hm:i % 3<3:=Nat.mod_lt _ (by omega)
  simp [madeCells]
  generalize i % 3=b at hm
  match b,hm with
  | 0,_=>rfl
  | 1,_=>rfl
  | 2,_=>rfl
theorem Blk.edges {W:World}{g:Nat}{l:List Ed}{t:TypeId}(h:Blk t W g (flat l)):Edges W.heap.size W (.slice (some ⟨g,0,none⟩) l.length l.length) l:=
 .inr ⟨g,0,l.length,rfl,h.lt,YA,fun j x hx=>by
  simp only [Nat.zero_add]
  exact⟨h.cell (QeE hx).1,h.cell (QeE hx).2.1,h.cell (QeE hx).2.2⟩⟩
theorem infoI:(Tryz.prog.info? 3).map (fun i=>(i.zero,i.size,i.bytes))=some (some (.int .i64 0),1,8):=by kernel_rfl
theorem QaK (n:Nat):(madeCells (Value.int .i64 0).cells (n*1)).toList=(List.replicate n (0:Int)).map (Value.int .i64):=by
 apply List.ext_getElem
 ·simp [madeCells]
 ·intro i h1 h2
  simp [madeCells,Value.cells,Nat.mod_one]
theorem Blk.ints {W:World}{g:Nat}{l:List Int}{t:TypeId}(h:Blk t W g (l.map (Value.int .i64))):Ints W.heap.size W (.slice (some ⟨g,0,none⟩) l.length l.length) l:=
 .inr ⟨g,0,l.length,rfl,h.lt,YA,fun j x hx=>by rw [Nat.zero_add];exact h.cell (by rw [YH,hx];rfl)⟩
def degL (N:Nat)(l:List Ed)(j:Nat):List Int:=(List.range N).map fun (v:Nat)=>((nb (l.take j) (v:Int)).length:Int)
theorem QbS (N:Nat)(l:List Ed)(j:Nat):(degL N l j).length=N:=by simp [degL]
theorem Qcu {N:Nat}{l:List Ed}{j v:Nat}(h:v<N):(degL N l j)[v]? = some ((nb (l.take j) (v:Int)).length:Int):=by simp [degL,h]
theorem Ql8 (N:Nat)(l:List Ed):degL N l 0=List.replicate N 0:=by
 apply List.ext_getElem <;> simp [degL,nb]
theorem Ql9 {N:Nat}{l:List Ed}{j u v:Nat}(h:j<l.length)(hu:l[j].1=(u:Int))(hv:l[j].2.1=(v:Int))(hne:u≠v)(huN:u<N)(hvN:v<N):
  ((degL N l j).set u ((nb (l.take j) (u:Int)).length+1)).set v ((nb (l.take j) (v:Int)).length+1)=degL N l (j+1):=by
 apply List.ext_getElem?
 intro i
 by_cases hi:i<N
 ·rw [Qcu hi,List.getElem?_set,List.getElem?_set,Qcu hi,Qb4 h,YI]
  simp only [List.length_set,QbS]
  unfold nbOf
  rw [hu,hv]
  by_cases h1:v=i
  ·subst h1
   rw [if_pos rfl,if_pos hvN,if_neg (by omega),if_pos rfl];simp
  ·rw [if_neg h1]
   by_cases h2:u=i
   ·subst h2
    rw [if_pos rfl,if_pos huN,if_pos rfl];simp
   ·rw [if_neg h2,if_neg (by omega),if_neg (by omega)];simp
 ·rw [YL (by simp [QbS];omega),YL (by rw [QbS];omega)]
theorem Qcs (N:Nat)(l:List Ed)(hR:RightG (N:Int) l)(sv:Value)(w:World)(hl:Edges w.heap.size w sv l):
  Calls Tryz.prog 92 #[.agg #[.int .i64 (N:Int),sv]] w fun r w'=>∃ dv,r = .returned dv∧Ints w'.heap.size w' dv (degL N l l.length)∧(∃ g,dv = .slice (some ⟨g,0,none⟩) N N∧w.heap.size<g)∧Below w.heap.size w w':=by
 have hg1:Grew w (w.alloc (.cells #[.int .i64 (N:Int),sv] 24)):=(Grew.refl w).alloc _
 have hl1:=hl.go hg1.below
 obtain⟨p,c,rfl⟩:=hl.len
 obtain⟨i0,hi,hz0,hz1,hz2⟩:=info_parts infoI
 have hrc:=fun W h=>Qbg (N:Int) l (.slice p l.length c) W h
 rw [right_iff.2 hR] at hrc
 have hn1:=hR.n1
 have hm1:=hR.m1
 go_enter Tryz.func92,Tryz.ntmps92
 go_wp2_with fail
 refine (hrc _ hl1).mono ?_
 rintro e w2 ⟨rfl,hg2⟩
 have q0:=(box2 _ hg2).1
 have q1:=(box2 _ hg2).2
 have hbox:=QeP hg2
 have hbw:=(hg1.trans hg2).below
 clear hrc hl1
 go_wp2_with (at_make;refine wpList_make_full _ rfl _ _ 27 rfl w2.heap.size 3 i0 (.int .i64 0) 1 Tryz.underlying27 hi hz0 hz1 .i64 .i64 _ _ N rfl rfl rfl rfl (by rw [hz2];omega) (by unfold maxLen;omega) YA ?_;intro w3 hown hgrow;have hb3:Below w2.heap.size w2 w3:=YD.grown hgrow YA (fun k e=>by cases e);have x1:=(hb3.cell (p:=⟨w.heap.size,1,none⟩) hbox).trans q1)
 have hrow:=Blk.made hown
 rw [QaK,← Ql8 N l] at hrow
 have hbw3:=hbw.trans (hb3.mono hbw.size)
 clear hown hgrow hi hz0 hz1 hz2 hb3 q0 q1 hg2 hg1 hbw
 generalize w2.heap.size=g at hrow hbox
 go_loopw [15] (fun i wr=>∃ j:Nat,j≤l.length∧i = .int .i64 j∧Blk 3 wr g ((degL N l j).map (Value.int .i64))∧Below g w3 wr) (fun i _=>l.length-(intOf i).toNat)
 case atStart=>exact⟨0,YN,rfl,hrow,YD⟩
 case round=>
  obtain⟨j,hj,rfl,hB,hb⟩:=hrel
  have hbwr:=hbw3.trans (hb.mono (by omega))
  have hgl:=hB.lt
  by_cases hlt:j<l.length
  ·obtain⟨b,off,rfl,hbb,hcap,hc,-⟩:=hl.open hlt
   obtain⟨c0,c1,c2⟩:=hc wr hbwr j hlt
   have hjl:(j:Int)<(l.length:Int):=by omega
   have hok:=hR.each l[j] (YG hlt)
   unfold okE at hok
   obtain⟨u,hu⟩:∃ u:Nat,l[j].1=(u:Int):=⟨l[j].1.toNat,by omega⟩
   obtain⟨v,hv⟩:∃ v:Nat,l[j].2.1=(v:Int):=⟨l[j].2.1.toNat,by omega⟩
   have huN:u<N:=by omega
   have hvN:v<N:=by omega
   have hne:u≠v:=by omega
   have HS:Hid _:=Ql9 (N:=N) hlt hu hv hne huN hvN
   rw [hu] at c0
   rw [hv] at c1
   have hul:=QgI l (u:Int) j
   have hvl:=QgI l (v:Int) j
   have hul2:=QaO (u:Int) l
   have hvl2:=QaO (v:Int) l
   have huN':(u:Int)<(N:Int):=by omega
   have hvN':(v:Int)<(N:Int):=by omega
   have t0:wr.cell? ⟨g,u,none⟩=some (.int .i64 ((nb (l.take j) (u:Int)).length:Int)):=hB.cell (by rw [YH,Qcu huN];rfl)
   have t1:wr.cell? ⟨g,v,none⟩=some (.int .i64 ((nb (l.take j) (v:Int)).length:Int)):=hB.cell (by rw [YH,Qcu hvN];rfl)
   have f0:=hB.frozen u
   have f1:=hB.frozen v
   have hBn:=(hB.set u (.int .i64 ((nb (l.take j) (u:Int)).length+1))).set v (.int .i64 ((nb (l.take j) (v:Int)).length+1))
   rw [← List.map_set,← List.map_set,HS.out] at hBn
   generalize (nb (l.take j) (u:Int)).length=du at *
   generalize (nb (l.take j) (v:Int)).length=dv at *
   generalize l[j].2.2=wv at c2
   have hbg:b≠g:=by omega
   clear hc hok hu hv
   go_wp2
   exact⟨⟨j+1,by omega,by go_num,hBn.go (YD.alloc YA _),((hb.setCell (p:=⟨g,u,none⟩) YA _).setCell (p:=⟨g,v,none⟩) YA _).alloc (by simp;omega) _⟩,by simp [intOf];omega⟩
  ·obtain rfl:j=l.length:=by omega
   have hI:=hB.ints
   rw [QbS] at hI
   go_wp2
   go_ret
   exact⟨_,rfl,hI,⟨g,rfl,hbox⟩,hbwr⟩
def cntL (N:Nat)(l:List Int)(j:Nat):List Int:=(List.range N).map fun (v:Nat)=>(((l.take j).count (v:Int):Nat):Int)
theorem QfZ (N:Nat)(l:List Int)(j:Nat):(cntL N l j).length=N:=by simp [cntL]
theorem Qh8 {N:Nat}{l:List Int}{j v:Nat}(h:v<N):(cntL N l j)[v]? = some (((l.take j).count (v:Int):Nat):Int):=by simp [cntL,h]
theorem Qme (N:Nat)(l:List Int):cntL N l 0=List.replicate N 0:=by
 apply List.ext_getElem <;> simp [cntL]
theorem Qj2 {l:List Int}{j:Nat}(h:j<l.length)(x:Int):(l.take (j+1)).count x=(l.take j).count x+(if l[j]=x then 1 else 0):=by
 rw [List.take_add_one,YB h,List.count_append]
 congr 1
 show List.count x [l[j]]=_
 rw [List.count_singleton]
 by_cases hx:l[j]=x
 ·rw [if_pos hx,if_pos (by simpa using hx)]
 ·rw [if_neg hx,if_neg (by simpa using hx)]
theorem Qmf {N:Nat}{l:List Int}{j u:Nat}(h:j<l.length)(hu:l[j]=(u:Int))(huN:u<N):
  (cntL N l j).set u (((l.take j).count (u:Int):Nat)+1)=cntL N l (j+1):=by
 apply List.ext_getElem?
 intro i
 by_cases hi:i<N
 ·rw [Qh8 hi,List.getElem?_set,Qh8 hi,Qj2 h,QfZ,hu]
  by_cases h1:u=i
  ·subst h1
   rw [if_pos rfl,if_pos huN,if_pos rfl]
   simp
  ·rw [if_neg h1,if_neg (by omega)]
   simp
 ·rw [YL (by simp [QfZ];omega),YL (by rw [QfZ];omega)]
def Qg8 (l:List Int):Prop:=∀ x∈l,0≤x∧x<(l.length:Int)
theorem Qh6 (l:List Int)(hL:Qg8 l)(hl:l.length≤4194304)(sv:Value)(w:World)(hA:Ints w.heap.size w sv l):
  Calls Tryz.prog 96 #[sv] w fun r w'=>∃ g,r = .returned (.slice (some ⟨g,0,none⟩) l.length l.length)∧Blk 3 w' g ((cntL l.length l l.length).map (Value.int .i64))∧w.heap.size≤g∧Below w.heap.size w w':=by
 obtain⟨p,c,rfl⟩:=hA.len
 obtain⟨i0,hi,hz0,hz1,hz2⟩:=info_parts infoI
 go_enter Tryz.func96,Tryz.ntmps96
 go_wp2_with (at_make;refine wpList_make_full _ rfl _ _ 27 rfl w.heap.size 3 i0 (.int .i64 0) 1 Tryz.underlying27 hi hz0 hz1 .i64 .i64 _ _ l.length rfl rfl rfl rfl (by rw [hz2];omega) (by unfold maxLen;omega) YA ?_;intro w3 hown hgrow;have hb3:Below w.heap.size w w3:=YD.grown hgrow YA (fun k e=>by cases e))
 have hrow:=Blk.made hown
 rw [QaK,← Qme l.length l] at hrow
 clear hown hgrow hi hz0 hz1 hz2
 have hwg:w.heap.size≤w.heap.size:=YA
 obtain⟨g,hg⟩:∃ g,g=w.heap.size:=⟨_,rfl⟩
 rw [← hg] at hrow ⊢
 go_loopw [11] (fun i wr=>∃ j:Nat,j≤l.length∧i = .int .i64 j∧Blk 3 wr g ((cntL l.length l j).map (Value.int .i64))∧Below g w3 wr) (fun i _=>l.length-(intOf i).toNat)
 case atStart=>exact⟨0,YN,rfl,hrow,YD⟩
 case round=>
  obtain⟨j,hj,rfl,hB,hb⟩:=hrel
  have hbwr:Below w.heap.size w wr:=hb3.trans (hb.mono (by omega))
  have hgl:=hB.lt
  by_cases hlt:j<l.length
  ·obtain⟨b,off,rfl,hbb,hcap,hc⟩:=hA.open hlt
   have c0:=hc wr hbwr j hlt
   have hjl:(j:Int)<(l.length:Int):=by omega
   have hok:=hL l[j] (YG hlt)
   obtain⟨u,hu⟩:∃ u:Nat,l[j]=(u:Int):=⟨l[j].toNat,by omega⟩
   have huN:u<l.length:=by omega
   have HS:Hid _:=Qmf (N:=l.length) hlt hu huN
   rw [hu] at c0
   have hul:(l.take j).count (u:Int)≤l.length:=Nat.le_trans List.count_le_length (by rw [List.length_take];omega)
   have huN':(u:Int)<(l.length:Int):=by omega
   have t0:wr.cell? ⟨g,u,none⟩=some (.int .i64 (((l.take j).count (u:Int):Nat):Int)):=hB.cell (by rw [YH,Qh8 huN];rfl)
   have f0:=hB.frozen u
   have hBn:=hB.set u (.int .i64 (((l.take j).count (u:Int):Nat)+1))
   rw [← List.map_set,HS.out] at hBn
   generalize (l.take j).count (u:Int)=du at *
   have hbg:b≠g:=by omega
   clear hc hok hu hg
   go_wp2
   exact⟨⟨j+1,by omega,by go_num,hBn,hb.setCell (p:=⟨g,u,none⟩) YA _⟩,by simp [intOf];omega⟩
  ·obtain rfl:j=l.length:=by omega
   go_wp2
   go_ret
   exact⟨g,rfl,hB,by omega,hbwr⟩
theorem Qob:(Tryz.prog.info? 27).map (fun i=>(i.zero,i.size,i.bytes))=some (some (.slice none 0 0),1,24):=by kernel_rfl
theorem Qal {A B:World}{base:Nat}{e:TypeId}{size:Nat}{v:Value}{n:Nat}{xs:List Value}{r:Option Nat}(h:A.ownsRow base e size v n xs)(hg:A.grownBy B r)(hne:v.ownBlock=none∨v.ownBlock≠r):B.ownsRow base e size v n xs:=h.kept hg hne
theorem Qag {W:World}{base:Nat}{e:TypeId}{size:Nat}{v:Value}{n:Nat}{xs:List Value}(h:W.ownsRow base e size v n xs){p:Addr}(hp:p.block<base)(u:Value):(W.setCell p u).ownsRow base e size v n xs:=by
 obtain⟨h1,h2⟩:=h
 refine⟨h1,?_⟩
 rcases h2 with h2 | ⟨g,cap,cur,hv,hb,hg,r⟩
 ·exact .inl h2
 ·exact .inr ⟨g,cap,cur,hv,hb,(Below.heap_setCell _ _ _ _ (by omega)).trans hg,r⟩
theorem grown_below' {A B:World}(h:Below A.heap.size A B)(r:Option Nat):A.grownBy B r:=⟨h.os,h.tape,h.output,h.size,fun k hk _=>h.block k hk⟩
structure Grp (h0:Nat)(lv:Value)(svs:List Value)(pre:List (List Int))(W:World):Prop where
 len:svs.length=pre.length
 own:W.ownsRow h0 27 1 lv svs.length svs
 inn:∀ (k:Nat) (sv:Value) (xs:List Int),svs[k]? = some sv→pre[k]? = some xs→W.ownsRow h0 3 1 sv xs.length (xs.map (Value.int .i64))
 apart:∀ (k j:Nat) (sv sv':Value),svs[k]? = some sv→svs[j]? = some sv'→k≠j→sv.ownBlock=none∨sv.ownBlock≠sv'.ownBlock
 outer:∀ (k:Nat) (sv:Value),svs[k]? = some sv→sv.ownBlock=none∨sv.ownBlock≠lv.ownBlock
theorem Grp.start (h0:Nat)(W:World):Grp h0 (.slice none 0 0) [] [] W:=
 ⟨rfl,World.ownsRow_nil _ _ _ _,fun k sv xs h=>by simp at h,fun k j sv sv' h=>by simp at h,fun k sv h=>by simp at h⟩
theorem Grp.go {h0:Nat}{lv:Value}{svs:List Value}{pre:List (List Int)}{A B:World}(h:Grp h0 lv svs pre A)(hb:Below A.heap.size A B):Grp h0 lv svs pre B:=by
 have hk:∀ {e:TypeId} {size:Nat} {v:Value} {n:Nat} {xs:List Value},A.ownsRow h0 e size v n xs→B.ownsRow h0 e size v n xs:=fun {e size v n xs} ho=>by
  refine Qal ho (grown_below' hb none) ?_
  cases v.ownBlock with
  | none=>exact .inl rfl
  | some k=>exact .inr (by simp)
 exact⟨h.len,hk h.own,fun k sv xs h1 h2=>hk (h.inn k sv xs h1 h2),h.apart,h.outer⟩
theorem Grp.low {h0:Nat}{lv:Value}{svs:List Value}{pre:List (List Int)}{W:World}(h:Grp h0 lv svs pre W){p:Addr}(hp:p.block<h0)(u:Value):Grp h0 lv svs pre (W.setCell p u):=
 ⟨h.len,Qag h.own hp u,fun k sv xs h1 h2=>Qag (h.inn k sv xs h1 h2) hp u,h.apart,h.outer⟩
theorem Qdn {W:World}{base:Nat}{e:TypeId}{size:Nat}{v:Value}{n:Nat}{xs:List Value}(h:W.ownsRow base e size v n xs){k:Nat}(hk:W.heap.size≤k):v.ownBlock=none∨v.ownBlock≠some k:=by
 cases hv:v.ownBlock with
 | none=>exact .inl rfl
 | some b=>
  refine .inr fun e=>?_
  have:=(h.lt b hv).2
  simp only [Option.some.injEq] at e
  omega
theorem Grp.new {h0:Nat}{lv lv' sv:Value}{svs:List Value}{pre:List (List Int)}{W A B:World}{o:Obj}(h:Grp h0 lv svs pre W)(hA:W.grownBy A none)(hs:A.ownsRow h0 3 1 sv 0 [])(hsb:sv.ownBlock=some W.heap.size)(hWA:W.heap.size<A.heap.size)
  (hB:B.ownsRow h0 27 1 lv' (svs.length+1) (svs++[sv])) (hg:(A.alloc o).grownBy B lv.ownBlock) (hat:lv'.ownBlock=lv.ownBlock∨lv'.ownBlock=some (A.alloc o).heap.size):Grp h0 lv' (svs++[sv]) (pre++[[]]) B:=by
 have hkA:∀ {e:TypeId} {size:Nat} {v:Value} {n:Nat} {xs:List Value},W.ownsRow h0 e size v n xs→(A.alloc o).ownsRow h0 e size v n xs:=fun {e size v n xs} ho=>by
  refine World.ownsRow.alloc (Qal ho hA ?_) o
  cases v.ownBlock with
  | none=>exact .inl rfl
  | some k=>exact .inr (by simp)
 have hlvW:lv.ownBlock=none∨lv.ownBlock≠some W.heap.size:=Qdn h.own YA
 have hne:sv.ownBlock≠lv.ownBlock:=fun e=>by
  rw [hsb] at e
  rcases hlvW with h1 | h1
  ·rw [h1] at e;cases e
  ·exact h1 e.symm
 have hsA:=(World.ownsRow.alloc hs o)
 have hlen:=h.len
 have split:∀ {k:Nat} {x:Value},(svs++[sv])[k]? = some x→(k<svs.length∧svs[k]? = some x)∨(k=svs.length∧x=sv):=fun {k x} hx=>by
  rw [List.getElem?_append] at hx
  by_cases hk:k<svs.length
  ·rw [if_pos hk] at hx
   exact .inl ⟨hk,hx⟩
  ·rw [if_neg hk] at hx
   have h1:=(YE hx).1
   simp at h1
   have h2:k=svs.length:=by omega
   subst h2
   simp at hx
   exact .inr ⟨rfl,hx.symm⟩
 have far:∀ {k:Nat} {x:Value},svs[k]? = some x→x.ownBlock=none∨∀ m,W.heap.size≤m→x.ownBlock≠some m:=fun {k x} hx=>by
  have hk:=(YE hx).1
  obtain⟨xs,hxs⟩:∃ xs,pre[k]? = some xs:=⟨_,YB (by omega)⟩
  cases hv:x.ownBlock with
  | none=>exact .inl rfl
  | some b=>
   refine .inr fun m hm e=>?_
   have:=((h.inn k x xs hx hxs).lt b hv).2
   simp only [Option.some.injEq] at e
   omega
 refine⟨by simp [hlen],by rw [YI];exact hB,?_,?_,?_⟩
 ·intro k x xs hx hp
  rcases split hx with ⟨hk,hx⟩ | ⟨rfl,rfl⟩
  ·rw [List.getElem?_append_left (by omega)] at hp
   exact Qal (hkA (h.inn k x xs hx hp)) hg (h.outer k x hx)
  ·rw [hlen,List.getElem?_append_right YA,Nat.sub_self] at hp
   simp at hp
   subst hp
   exact Qal hsA hg (.inr hne)
 ·intro k j x x' hx hx' hkj
  rcases split hx with ⟨hk,hy⟩ | ⟨rfl,rfl⟩
  ·rcases split hx' with ⟨hj,hy'⟩ | ⟨rfl,rfl⟩
   ·exact h.apart k j x x' hy hy' hkj
   ·rw [hsb]
    rcases far hy with h1 | h1
    ·exact .inl h1
    ·exact .inr (h1 _ YA)
  ·rcases split hx' with ⟨hj,hy'⟩ | ⟨rfl,rfl⟩
   ·refine .inr fun e=>?_
    rw [hsb] at e
    rcases far hy' with h1 | h1
    ·rw [h1] at e;cases e
    ·exact h1 _ YA e.symm
   ·exact absurd rfl hkj
 ·intro k x hx
  rcases split hx with ⟨hk,hx⟩ | ⟨rfl,rfl⟩
  ·rcases hat with e | e
   ·rw [e];exact h.outer k x hx
   ·rw [e]
    rcases far hx with h1 | h1
    ·exact .inl h1
    ·exact .inr (h1 _ (by simp;omega))
  ·rcases hat with e | e
   ·rw [e];exact .inr hne
   ·rw [e,hsb]
    refine .inr fun e2=>?_
    simp at e2
    omega
theorem Grp.push {h0 g cap k:Nat}{svs:List Value}{pre:List (List Int)}{W B:World}{o:Obj}{sv sv':Value}{xs:List Int}{y:Int}(h:Grp h0 (.slice (some ⟨g,0,none⟩) svs.length cap) svs pre W)(hk:svs[k]? = some sv)(hp:pre[k]? = some xs)
  (hB:B.ownsRow h0 3 1 sv' (xs.length+1) (xs.map (Value.int .i64)++[.int .i64 y])) (hg:(W.alloc o).grownBy B sv.ownBlock) (hat:sv'.ownBlock=sv.ownBlock∨sv'.ownBlock=some (W.alloc o).heap.size):Grp h0 (.slice (some ⟨g,0,none⟩) svs.length cap) (svs.set k sv') (pre.set k (xs++[y])) (B.setCell ⟨g,k,none⟩ sv'):=by
 have hlen:=h.len
 have hkl:=(YE hk).1
 have hgl:g<W.heap.size:=(h.own.lt g rfl).2
 have hkW:∀ {e:TypeId} {size:Nat} {v:Value} {n:Nat} {zs:List Value},W.ownsRow h0 e size v n zs→(v.ownBlock=none∨v.ownBlock≠sv.ownBlock)→B.ownsRow h0 e size v n zs:=fun {e size v n zs} ho hne=>Qal (World.ownsRow.alloc ho o) hg hne
 have hout:=h.outer k sv hk
 have hlvne:(Value.slice (some ⟨g,0,none⟩) svs.length cap).ownBlock=none∨(Value.slice (some ⟨g,0,none⟩) svs.length cap).ownBlock≠sv.ownBlock:=by
  refine .inr fun e=>?_
  rcases hout with h1 | h1
  ·rw [h1] at e;cases e
  ·exact h1 e.symm
 have hlvB:=hkW h.own hlvne
 obtain⟨hst,hsg⟩:=hlvB.stored k sv'
 have hsvg:sv'.ownBlock=none∨sv'.ownBlock≠some g:=by
  rcases hat with e | e
  ·rw [e];exact hout
  ·rw [e]
   refine .inr fun e2=>?_
   simp at e2
   omega
 have split:∀ {j:Nat} {x:Value},(svs.set k sv')[j]? = some x→(j≠k∧svs[j]? = some x)∨(j=k∧x=sv'):=fun {j x} hx=>by
  rw [List.getElem?_set] at hx
  by_cases hj:k=j
  ·subst hj
   rw [if_pos rfl,if_pos hkl] at hx
   exact .inr ⟨rfl,(Option.some.inj hx).symm⟩
  ·rw [if_neg hj] at hx
   exact .inl ⟨Ne.symm hj,hx⟩
 have far:∀ {j:Nat} {x:Value},svs[j]? = some x→x.ownBlock=none∨∀ m,W.heap.size≤m→x.ownBlock≠some m:=fun {j x} hx=>by
  have hj:=(YE hx).1
  obtain⟨zs,hzs⟩:∃ zs,pre[j]? = some zs:=⟨_,YB (by omega)⟩
  cases hv:x.ownBlock with
  | none=>exact .inl rfl
  | some b=>
   refine .inr fun m hm e=>?_
   have:=((h.inn j x zs hx hzs).lt b hv).2
   simp only [Option.some.injEq] at e
   omega
 refine⟨by simp [hlen],by rw [List.length_set];exact hst,?_,?_,?_⟩
 ·intro j x zs hx hz
  rcases split hx with ⟨hj,hx⟩ | ⟨rfl,rfl⟩
  ·rw [List.getElem?_set_ne (Ne.symm hj)] at hz
   refine Qal (hkW (h.inn j x zs hx hz) (h.apart j k x sv hx hk hj)) hsg ?_
   exact h.outer j x hx
  ·rw [List.getElem?_set_self (by omega)] at hz
   cases hz
   rw [YI,List.map_append]
   exact Qal hB hsg hsvg
 ·intro i j x x' hx hx' hij
  rcases split hx with ⟨hi,hy⟩ | ⟨rfl,rfl⟩
  ·rcases split hx' with ⟨hj,hy'⟩ | ⟨rfl,rfl⟩
   ·exact h.apart i j x x' hy hy' hij
   ·rcases hat with e | e
    ·rw [e];exact h.apart i j x sv hy hk hi
    ·rw [e]
     rcases far hy with h1 | h1
     ·exact .inl h1
     ·exact .inr (h1 _ (by simp))
  ·rcases split hx' with ⟨hj,hy'⟩ | ⟨rfl,rfl⟩
   ·rcases hat with e | e
    ·rw [e];exact h.apart i j sv x' hk hy' hij
    ·rw [e]
     refine .inr fun e2=>?_
     rcases far hy' with h1 | h1
     ·rw [h1] at e2;cases e2
     ·exact h1 _ (by simp) e2.symm
   ·exact absurd rfl hij
 ·intro j x hx
  rcases split hx with ⟨hj,hx⟩ | ⟨rfl,rfl⟩
  ·exact h.outer j x hx
  ·exact hsvg
end Go.Proofs.YtalflecmadacaaaGreat
