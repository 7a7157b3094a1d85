import Derived.Test.YtalflecmadacaaaGreatZAC
import Derived.Test.YtalflecmadacaaaGreatZAB
import Derived.Deep.QuietTactic
import Derived.BigQuiet
import Derived.Deep.RegionHeld3
import Derived.Test.YtalflecmadacaaaGreatZAA
set_option maxRecDepth 100000
set_option maxHeartbeats 8000000
namespace Go.Proofs.YtalflecmadacaaaGreat
open Go Go.Proofs Go.RowKit
def encS (t:Stp):List Value:=[.int .i64 t.v,.int .i64 t.by_,.int .i64 (t.next:Int),.int .i64 t.low,.int .i64 (t.opn:Int)]
def flatP (P:List Stp):List Value:=P.flatMap encS
theorem Qbl:∀ P:List Stp,(flatP P).length=P.length*5
 | []=>rfl
 | t :: P=>by
  have:=Qbl P
  simp only [flatP,List.flatMap_cons,YI,List.length_cons] at this ⊢
  have h:(encS t).length=5:=rfl
  omega
theorem Qa9 (P Q:List Stp):flatP (P++Q)=flatP P++flatP Q:=by simp [flatP]
structure Lay where
 N:Nat
 M:Nat
 wb:Nat
 rb:Nat
 fb:Nat
 db:Nat
 kb:Nat
 h0:Nat
structure LayOK (a:Lay):Prop where
 w0:a.wb<a.h0
 r0:a.rb<a.h0
 f0:a.fb<a.h0
 d0:a.db<a.h0
 k0:a.kb<a.h0
 wr:a.wb≠a.rb
 wf:a.wb≠a.fb
 wd:a.wb≠a.db
 wk:a.wb≠a.kb
 rf:a.rb≠a.fb
 rd:a.rb≠a.db
 rk:a.rb≠a.kb
 fd:a.fb≠a.db
 fk:a.fb≠a.kb
 dk:a.db≠a.kb
def Qjq (a:Lay)(lv pv ov:Value):List Value:=[lv,.slice (some ⟨a.rb,0,none⟩) a.N a.N,.slice (some ⟨a.fb,0,none⟩) a.N a.N,.slice (some ⟨a.db,0,none⟩) a.N a.N,.slice (some ⟨a.kb,0,none⟩) a.M a.M,pv,ov]
structure WB (a:Lay)(lv pv ov:Value)(s:WS)(W:World):Prop where
 blk:Blk 97 W a.wb (Qjq a lv pv ov)
 root:Blk 3 W a.rb (s.root.map (Value.int .i64))
 frm:Blk 3 W a.fb (s.from_.map (Value.int .i64))
 dep:Blk 3 W a.db (s.depth.map (Value.int .i64))
 bls:Blk 3 W a.kb (s.block.map (Value.int .i64))
 way:W.ownsRow a.h0 144 5 pv s.path.length (flatP s.path)
 opn:W.ownsRow a.h0 3 1 ov s.opn.length (s.opn.map (Value.int .i64))
theorem WB.go {a:Lay}{lv pv ov:Value}{s:WS}{A B:World}(h:WB a lv pv ov s A)(hb:Below A.heap.size A B):WB a lv pv ov s B:=by
 have hk:∀ {e:TypeId} {size:Nat} {v:Value} {n:Nat} {xs:List Value},A.ownsRow a.h0 e size v n xs→B.ownsRow a.h0 e size v n xs:=fun {e size v n xs} ho=>by
  refine Qau ho (grown_below' hb none) ?_
  cases v.ownBlock with
  | none=>exact .inl rfl
  | some k=>exact .inr (by simp)
 exact⟨h.blk.go hb,h.root.go hb,h.frm.go hb,h.dep.go hb,h.bls.go hb,hk h.way,hk h.opn⟩
theorem WB.setRoot {a:Lay}{lv pv ov:Value}{s:WS}{W:World}(h:WB a lv pv ov s W)(hL:LayOK a)(i:Nat)(x:Int):WB a lv pv ov { s with root:=s.root.set i x } (W.setCell ⟨a.rb,i,none⟩ (.int .i64 x)):=by
 have hr:=h.root.set i (.int .i64 x)
 rw [← List.map_set] at hr
 exact⟨h.blk.other hL.wr _,hr,h.frm.other (Ne.symm hL.rf) _,h.dep.other (Ne.symm hL.rd) _,h.bls.other (Ne.symm hL.rk) _,Qaf h.way hL.r0 _,Qaf h.opn hL.r0 _⟩
theorem WB.setFrom {a:Lay}{lv pv ov:Value}{s:WS}{W:World}(h:WB a lv pv ov s W)(hL:LayOK a)(i:Nat)(x:Int):WB a lv pv ov { s with from_:=s.from_.set i x } (W.setCell ⟨a.fb,i,none⟩ (.int .i64 x)):=by
 have hr:=h.frm.set i (.int .i64 x)
 rw [← List.map_set] at hr
 exact⟨h.blk.other hL.wf _,h.root.other hL.rf _,hr,h.dep.other (Ne.symm hL.fd) _,h.bls.other (Ne.symm hL.fk) _,Qaf h.way hL.f0 _,Qaf h.opn hL.f0 _⟩
theorem WB.setDepth {a:Lay}{lv pv ov:Value}{s:WS}{W:World}(h:WB a lv pv ov s W)(hL:LayOK a)(i:Nat)(x:Int):WB a lv pv ov { s with depth:=s.depth.set i x } (W.setCell ⟨a.db,i,none⟩ (.int .i64 x)):=by
 have hr:=h.dep.set i (.int .i64 x)
 rw [← List.map_set] at hr
 exact⟨h.blk.other hL.wd _,h.root.other hL.rd _,h.frm.other hL.fd _,hr,h.bls.other (Ne.symm hL.dk) _,Qaf h.way hL.d0 _,Qaf h.opn hL.d0 _⟩
theorem WB.setBlock {a:Lay}{lv pv ov:Value}{s:WS}{W:World}(h:WB a lv pv ov s W)(hL:LayOK a)(i:Nat)(x:Int):WB a lv pv ov { s with block:=s.block.set i x } (W.setCell ⟨a.kb,i,none⟩ (.int .i64 x)):=by
 have hr:=h.bls.set i (.int .i64 x)
 rw [← List.map_set] at hr
 exact⟨h.blk.other hL.wk _,h.root.other hL.rk _,h.frm.other hL.fk _,h.dep.other hL.dk _,hr,Qaf h.way hL.k0 _,Qaf h.opn hL.k0 _⟩
theorem WB.top {a:Lay}{lv ov:Value}{s:WS}{W:World}{pb cap:Nat}{init:List Stp}{top:Stp}(h:WB a lv (.slice (some ⟨pb,0,none⟩) s.path.length cap) ov s W)(hp:s.path=init++[top]):
  W.cell? ⟨pb,init.length*5,none⟩=some (.int .i64 top.v)∧W.cell? ⟨pb,init.length*5+1,none⟩=some (.int .i64 top.by_)∧W.cell? ⟨pb,init.length*5+2,none⟩=some (.int .i64 (top.next:Int))∧W.cell? ⟨pb,init.length*5+3,none⟩=some (.int .i64 top.low)∧W.cell? ⟨pb,init.length*5+4,none⟩=some (.int .i64 (top.opn:Int)):=by
 have hl:s.path.length=init.length+1:=by rw [hp];simp
 have hx:flatP s.path=flatP init++encS top:=by rw [hp,Qa9];simp [flatP]
 have hfl:=Qbl init
 have at5:∀ (j:Nat) (u:Value),(encS top)[j]? = some u→W.cell? ⟨pb,init.length*5+j,none⟩=some u:=fun j u hu=>by
  have hj:=(YE hu).1
  have h5:(encS top).length=5:=rfl
  have:=h.way.cellAt (init.length*5+j) (by omega)
  rw [this,hx,List.getElem?_append_right (by omega),hfl,Nat.add_sub_cancel_left]
  exact hu
 exact⟨at5 0 _ rfl,at5 1 _ rfl,at5 2 _ rfl,at5 3 _ rfl,at5 4 _ rfl⟩
theorem Ql1 (a:Lay)(lv ov:Value)(s:WS)(init:List Stp)(top:Stp)(pb cap v u:Nat)(pl:Int)(hp:s.path=init++[top])(hv:top.v=(v:Int))(hvN:v<a.N)(huN:u<a.N)(hN:a.N≤1048576)(hD:s.depth.length=a.N)(h1:0≤s.depth.getD u 0)(h2:s.depth.getD v 0≤s.depth.getD u 0)(w:World)(h:WB a lv (.slice (some ⟨pb,0,none⟩) s.path.length cap) ov s w):
  Calls Tryz.prog 118 #[.pointer (some ⟨a.wb,0,none⟩),.pointer (some ⟨pb,init.length*5,none⟩),.agg #[.int .i64 (u:Int),.int .i64 pl]] w fun e w'=>e = .returned (.tuple #[])∧Below w.heap.size w w':=by
 have hmix:=mixed
 have hb1:Below w.heap.size w (w.alloc (.cells #[.int .i64 (u:Int),.int .i64 pl] 142)):=YD.alloc YA _
 have hX:Blk 142 (w.alloc (.cells #[.int .i64 (u:Int),.int .i64 pl] 142)) w.heap.size [.int .i64 (u:Int),.int .i64 pl]:=heap_alloc_new w _
 have h':=h.go hb1
 have b3:=h'.blk.cell (j:=3) rfl
 obtain⟨p0,-,-,-,-⟩:=h'.top hp
 rw [hv] at p0
 have x0:=hX.cell (j:=0) rfl
 have hvN':(v:Int)<(a.N:Int):=by omega
 have huN':(u:Int)<(a.N:Int):=by omega
 have t0:(w.alloc (.cells #[.int .i64 (u:Int),.int .i64 pl] 142)).cell? ⟨a.db,v,none⟩=some (.int .i64 (s.depth.getD v 0)):=h'.dep.cell (by rw [YH,YB (by omega)];simp [show v<s.depth.length by omega])
 have t1:(w.alloc (.cells #[.int .i64 (u:Int),.int .i64 pl] 142)).cell? ⟨a.db,u,none⟩=some (.int .i64 (s.depth.getD u 0)):=h'.dep.cell (by rw [YH,YB (by omega)];simp [show u<s.depth.length by omega])
 obtain⟨N,M,wb,rb,fb,db,kb,h0⟩:=a
 simp only at *
 generalize s.depth.getD u 0=du at *
 generalize s.depth.getD v 0=dv at *
 have h1':¬ du<0:=by omega
 have h2':¬ du<dv:=by omega
 generalize init.length*5=off at *
 clear h h' hD hX hp hv
 go_enter Tryz.func118,Tryz.ntmps118
 go_wp2
 go_quiet (fail)
 have hbq:Below w.heap.size w ((w.alloc (.cells #[.int .i64 (u:Int),.int .i64 pl] 142)).drewN nq):=Qab hb1 nq
 generalize (w.alloc (.cells #[.int .i64 (u:Int),.int .i64 pl] 142)).drewN nq=w5 at hbq ⊢
 go_wp2
 refine bodyPost_end (results_none rfl _ _ _) rfl ?_
 exact⟨rfl,hbq⟩
theorem Qhe (init:List Stp)(top:Stp)(x:Int):(flatP (init++[top])).set (init.length*5+3) (.int .i64 x)=flatP (init++[{ top with low:=x }]):=by
 rw [Qa9,Qa9,List.set_append_right _ _ (by rw [Qbl];omega),Qbl,Nat.add_sub_cancel_left]
 rfl
theorem Qkt (init:List Stp)(top:Stp)(x:Nat):(flatP (init++[top])).set (init.length*5+2) (.int .i64 (x:Int))=flatP (init++[{ top with next:=x }]):=by
 rw [Qa9,Qa9,List.set_append_right _ _ (by rw [Qbl];omega),Qbl,Nat.add_sub_cancel_left]
 rfl
def QaE (pv ov:Value):Prop:=(pv.ownBlock=none∨pv.ownBlock≠ov.ownBlock)∧(ov.ownBlock=none∨ov.ownBlock≠pv.ownBlock)
theorem WB.setWay {a:Lay}{lv ov:Value}{s:WS}{W:World}{pb cap:Nat}(h:WB a lv (.slice (some ⟨pb,0,none⟩) s.path.length cap) ov s W)(hL:LayOK a)(hA:QaE (.slice (some ⟨pb,0,none⟩) s.path.length cap) ov){j:Nat}{u:Value}{P:List Stp}(hP:(flatP s.path).set j u=flatP P)(hl:P.length=s.path.length):WB a lv (.slice (some ⟨pb,0,none⟩) P.length cap) ov { s with path:=P } (W.setCell ⟨pb,j,none⟩ u):=by
 obtain⟨h1,h2⟩:=h.way.stored j u
 have hb:=h.way.lt pb rfl
 rw [hP] at h1
 have hlo:∀ {t:TypeId} {b:Nat} {vs:List Value},Blk t W b vs→b<a.h0→Blk t (W.setCell ⟨pb,j,none⟩ u) b vs:=fun hB hlt=>hB.other (by simp only;omega) _
 refine⟨hlo h.blk hL.w0 |> fun x=>?_,hlo h.root hL.r0,hlo h.frm hL.f0,hlo h.dep hL.d0,hlo h.bls hL.k0,by rw [hl];exact h1,Qau h.opn h2 hA.2⟩
 rw [hl]
 exact x
theorem WB.setOpn {a:Lay}{lv pv ov ov':Value}{s:WS}{A B:World}{P:List Int}(h:WB a lv pv ov s A)(hL:LayOK a)(hA:QaE pv ov)(hg:A.grownBy B ov.ownBlock)(hlow:∀ k,ov.ownBlock=some k→a.h0≤k)(hB:B.ownsRow a.h0 3 1 ov' P.length (P.map (Value.int .i64))):WB a lv pv ov' { s with opn:=P } (B.setCell ⟨a.wb,6,none⟩ ov'):=by
 have hb:∀ {t:TypeId} {b:Nat} {vs:List Value},Blk t A b vs→b<a.h0→Blk t B b vs:=fun {t b vs} hB hlt=>(hg.block b hB.lt (fun e=>by have:=hlow b e.symm;omega)).trans hB
 have hbl:=(hb h.blk hL.w0).set 6 ov'
 exact⟨hbl,(hb h.root hL.r0).other (Ne.symm hL.wr) _,(hb h.frm hL.f0).other (Ne.symm hL.wf) _,(hb h.dep hL.d0).other (Ne.symm hL.wd) _,(hb h.bls hL.k0).other (Ne.symm hL.wk) _,Qaf (Qau h.way hg hA.1) hL.w0 _,Qaf hB hL.w0 _⟩
def Lay.five (a:Lay)(k:Nat):Prop:=k=a.wb∨k=a.rb∨k=a.fb∨k=a.db∨k=a.kb
structure Wk (a:Lay)(A B:World):Prop where
 os:B.os=A.os
 tape:B.tape=A.tape
 output:B.output=A.output
 size:A.heap.size≤B.heap.size
 block:∀ k,k<a.h0→¬ a.five k→B.heap[k]? = A.heap[k]?
theorem Wk.refl (a:Lay)(A:World):Wk a A A:=⟨rfl,rfl,rfl,YA,fun _ _ _=>rfl⟩
theorem Wk.trans {a:Lay}{A B C:World}(h:Wk a A B)(k:Wk a B C):Wk a A C:=
 ⟨k.os.trans h.os,k.tape.trans h.tape,k.output.trans h.output,Nat.le_trans h.size k.size,fun i hi hn=>(k.block i hi hn).trans (h.block i hi hn)⟩
theorem Wk.of_below {a:Lay}{n:Nat}{A B:World}(h:Below n A B)(hn:a.h0≤n):Wk a A B:=⟨h.os,h.tape,h.output,h.size,fun k hk _=>h.block k (by omega)⟩
theorem Wk.grown {a:Lay}{A B:World}{row:Option Nat}(h:A.grownBy B row)(hs:a.h0≤A.heap.size)(hr:∀ k,row=some k→a.h0≤k):Wk a A B:=
 ⟨h.os,h.tape,h.output,h.size,fun k hk _=>h.block k (by omega) (fun e=>by have:=hr k e.symm;omega)⟩
theorem Wk.set {a:Lay}{A B:World}(h:Wk a A B){p:Addr}(hp:a.five p.block∨a.h0≤p.block)(u:Value):Wk a A (B.setCell p u):=
 h.trans ⟨rfl,rfl,rfl,by simp,fun k hk hn=>Below.heap_setCell _ _ _ _ (fun e=>by
  rcases hp with h1 | h1
  ·exact hn (e ▸ h1)
  ·omega)⟩
theorem Wk.below {a:Lay}{n:Nat}{A B:World}(h:Wk a A B)(hn:n≤a.h0)(h5:∀ k,k<n→¬ a.five k):Below n A B:=⟨h.os,h.tape,h.output,h.size,fun k hk=>h.block k (by omega) (h5 k hk)⟩
theorem Wk.blk {a:Lay}{A B:World}{t:TypeId}{g:Nat}{vs:List Value}(h:Wk a A B)(hB:Blk t A g vs)(hg:g<a.h0)(hn:¬ a.five g):Blk t B g vs:=(h.block g hg hn).trans hB
structure LK (a:Lay)(lv:Value)(lk:List (List (Int × Int)))(W:World):Prop where
 ex:∃ (lb sb:Nat) (svs cs:List Value),lv = .slice (some ⟨lb,0,none⟩) a.N a.N∧lb<a.h0∧¬ a.five lb∧sb<a.h0∧¬ a.five sb∧lk.length=a.N∧Blk 140 W lb svs∧Blk 142 W sb cs ∧
  ∀ (v:Nat) (xs:List (Int × Int)),lk[v]? = some xs→∃ off c,svs[v]? = some (.slice (some ⟨sb,off,none⟩) xs.length c)∧∀ (j:Nat) (x:Int × Int),xs[j]? = some x→cs[off+j*2]? = some (.int .i64 x.1)∧cs[off+j*2+1]? = some (.int .i64 x.2)
theorem LK.go {a:Lay}{lv:Value}{lk:List (List (Int × Int))}{A B:World}(h:LK a lv lk A)(k:Wk a A B):LK a lv lk B:=by
 obtain⟨lb,sb,svs,cs,h1,h2,h3,h4,h5,h6,h7,h8,h9⟩:=h.ex
 exact⟨lb,sb,svs,cs,h1,h2,h3,h4,h5,h6,k.blk h7 h2 h3,k.blk h8 h4 h5,h9⟩
theorem Qfn (v:Int):∀ (x y:List Ed) (p:Nat),Qai v p (x++y)=Qai v p x++Qai v (p+x.length) y
 | [],y,p=>by simp [Qai]
 | e :: x,y,p=>by
  rw [List.cons_append,Qai,Qai,Qfn v x y (p+1),List.append_assoc,List.length_cons]
  have:p+1+x.length=p+(x.length+1):=by omega
  rw [this]
theorem QeF {l:List Ed}{i:Nat}(h:i<l.length)(v:Int):Qai v 0 (l.take (i+1))=Qai v 0 (l.take i)++(if l[i].1=v then [(l[i].2.1,(i:Int))] else if l[i].2.1=v then [(l[i].1,(i:Int))] else []):=by
 rw [List.take_add_one,YB h,Qfn]
 have:(l.take i).length=i:=by rw [List.length_take];omega
 rw [this,Nat.zero_add]
 simp [Qai]
theorem QbD (v:Int):∀ (l:List Ed) (p:Nat),(Qai v p l).length=(nb l v).length
 | [],p=>rfl
 | e :: l,p=>by
  have ih:=QbD v l (p+1)
  have hl:(nb (e :: l) v).length=(nbOf e v).length+(nb l v).length:=by unfold nb;rw [List.flatMap_cons,YI]
  rw [Qai,YI,ih,hl]
  unfold nbOf
  split
  ·rfl
  ·split <;> rfl
def offR (l:List Ed)(M2:Nat):Nat→Nat
 | 0=>0
 | v+1=>if (nb l (v:Int)).length=M2-degS l v then offR l M2 v else offR l M2 v+(nb l (v:Int)).length
theorem QlF {l:List Ed}{M2:Nat}:∀ {v:Nat},degS l v<M2→offR l M2 v=degS l v
 | 0,_=>rfl
 | v+1,h=>by
  have hd:degS l (v+1)=degS l v+(nb l (v:Int)).length:=rfl
  have ih:=QlF (l:=l) (M2:=M2) (v:=v) (by omega)
  rw [offR,if_neg (by omega),ih,hd]
theorem QhZ {l:List Ed}{M2 N:Nat}(hM:degS l N=M2){v:Nat}(hv:v<N)(hd:0<(nb l (v:Int)).length):offR l M2 v=degS l v:=by
 have h1:degS l (v+1)=degS l v+(nb l (v:Int)).length:=rfl
 have h2:=Qcz (l:=l) (v:=v+1) (n:=N) hv
 exact QlF (by omega)
theorem QiZ {l:List Ed}{M2 N:Nat}(hM:degS l N=M2){u v j k:Nat}(hu:u<N)(hv:v<N)(hj:j<(nb l (u:Int)).length)(hk:k<(nb l (v:Int)).length)(he:offR l M2 u+j=offR l M2 v+k):u=v∧j=k:=by
 rw [QhZ hM hu (by omega),QhZ hM hv (by omega)] at he
 have h1:degS l (u+1)=degS l u+(nb l (u:Int)).length:=rfl
 have h2:degS l (v+1)=degS l v+(nb l (v:Int)).length:=rfl
 rcases Nat.lt_trichotomy u v with h | h | h
 ·have:=Qcz (l:=l) (v:=u+1) (n:=v) h;omega
 ·subst h;exact⟨rfl,by omega⟩
 ·have:=Qcz (l:=l) (v:=v+1) (n:=u) h;omega
theorem QlE {l:List Ed}{M2 N:Nat}(hM:degS l N=M2){v j:Nat}(hv:v<N)(hj:j<(nb l (v:Int)).length):offR l M2 v+j<M2:=by
 rw [QhZ hM hv (by omega)]
 have h2:degS l (v+1)=degS l v+(nb l (v:Int)).length:=rfl
 have:=Qcz (l:=l) (v:=v+1) (n:=N) hv
 omega
def rowsK (N sb:Nat)(off deg:Nat→Nat)(pre:Nat→List (Int × Int)):List Value:=(List.range N).map fun v=>.slice (some ⟨sb,off v*2,none⟩) (pre v).length (deg v)
theorem QcM {N sb:Nat}{off deg:Nat→Nat}{pre:Nat→List (Int × Int)}{v:Nat}(h:v<N):(rowsK N sb off deg pre)[v]? = some (.slice (some ⟨sb,off v*2,none⟩) (pre v).length (deg v)):=by simp [rowsK,h]
theorem Qej (N sb:Nat)(off deg:Nat→Nat)(pre:Nat→List (Int × Int)):(rowsK N sb off deg pre).length=N:=by simp [rowsK]
def halfK (N sb:Nat)(off deg:Nat→Nat)(j:Nat):List Value:=(List.range N).map fun v=>if v<j then .slice (some ⟨sb,off v*2,none⟩) 0 (deg v) else .slice none 0 0
theorem Qd3 {N sb:Nat}{off deg:Nat→Nat}{j v:Nat}(h:v<N):(halfK N sb off deg j)[v]? = some (if v<j then .slice (some ⟨sb,off v*2,none⟩) 0 (deg v) else .slice none 0 0):=by simp [halfK,h]
theorem Qc7 (N sb:Nat)(off deg:Nat→Nat)(j:Nat):(halfK N sb off deg j).length=N:=by simp [halfK]
theorem Qkm (N sb:Nat)(off deg:Nat→Nat):halfK N sb off deg 0=List.replicate N (.slice none 0 0):=by
 apply List.ext_getElem?
 intro i
 by_cases h:i<N
 ·rw [Qd3 h];simp [h]
 ·rw [YL (by rw [Qc7];omega),YL (by simp;omega)]
theorem Qkn {N sb:Nat}{off deg:Nat→Nat}{j:Nat}:(halfK N sb off deg j).set j (.slice (some ⟨sb,off j*2,none⟩) 0 (deg j))=halfK N sb off deg (j+1):=by
 apply List.ext_getElem?
 intro i
 by_cases h:i<N
 ·rw [List.getElem?_set,Qd3 h,Qd3 h,Qc7]
  by_cases e:j=i
  ·subst e;rw [if_pos rfl,if_pos h,if_pos (by omega)]
  ·rw [if_neg e]
   by_cases hi:i<j
   ·rw [if_pos hi,if_pos (by omega)]
   ·rw [if_neg hi,if_neg (by omega)]
 ·rw [YL (by rw [List.length_set,Qc7];omega),YL (by rw [Qc7];omega)]
theorem Qko (N sb:Nat)(off deg:Nat→Nat):halfK N sb off deg N=rowsK N sb off deg (fun _=>[]):=by
 unfold halfK rowsK
 refine List.map_congr_left fun v hv=>?_
 rw [if_pos (List.mem_range.1 hv)]
 rfl
def updK (pre:Nat→List (Int × Int))(v:Nat)(y:Int × Int):Nat→List (Int × Int):=fun i=>if i=v then pre v++[y] else pre i
structure LnkI (N lb sb M2:Nat)(off deg:Nat→Nat)(pre:Nat→List (Int × Int))(W:World):Prop where
 row:Blk 140 W lb (rowsK N sb off deg pre)
 le:∀ v,v<N→(pre v).length≤deg v
 cur:∃ cs,Blk 142 W sb cs∧cs.length=M2*2∧∀ v j x,v<N→(pre v)[j]? = some x→cs[(off v+j)*2]? = some (.int .i64 x.1)∧cs[(off v+j)*2+1]? = some (.int .i64 x.2)
theorem LnkI.go {N lb sb M2:Nat}{off deg:Nat→Nat}{pre:Nat→List (Int × Int)}{A B:World}(h:LnkI N lb sb M2 off deg pre A)(hb:Below A.heap.size A B):LnkI N lb sb M2 off deg pre B:=by
 obtain⟨cs,h1,h2,h3⟩:=h.cur
 exact⟨h.row.go hb,h.le,cs,h1.go hb,h2,h3⟩
theorem LnkI.push {N lb sb M2:Nat}{off deg:Nat→Nat}{pre:Nat→List (Int × Int)}{W:World}(h:LnkI N lb sb M2 off deg pre W)(hne:lb≠sb)(hsep:∀ u v j k,u<N→v<N→j<deg u→k<deg v→off u+j=off v+k→u=v∧j=k)(hin:∀ v j,v<N→j<deg v→off v+j<M2){v:Nat}(hv:v<N)(y:Int × Int)(hd:(pre v).length+1≤deg v):
  LnkI N lb sb M2 off deg (updK pre v y) (((W.setCell ⟨sb,(off v+(pre v).length)*2,none⟩ (.int .i64 y.1)).setCell ⟨sb,(off v+(pre v).length)*2+1,none⟩ (.int .i64 y.2)).setCell ⟨lb,v,none⟩ (.slice (some ⟨sb,off v*2,none⟩) ((pre v).length+1) (deg v))):=by
 obtain⟨cs,h1,h2,h3⟩:=h.cur
 have hr:=((h.row.other (p:=⟨sb,(off v+(pre v).length)*2,none⟩) hne (.int .i64 y.1)).other (p:=⟨sb,(off v+(pre v).length)*2+1,none⟩) hne (.int .i64 y.2)).set v (.slice (some ⟨sb,off v*2,none⟩) ((pre v).length+1) (deg v))
 have e1:(rowsK N sb off deg pre).set v (.slice (some ⟨sb,off v*2,none⟩) ((pre v).length+1) (deg v))=rowsK N sb off deg (updK pre v y):=by
  apply List.ext_getElem?
  intro i
  by_cases hi:i<N
  ·rw [List.getElem?_set,Qej,QcM hi,QcM hi]
   by_cases e:v=i
   ·subst e;rw [if_pos rfl,if_pos hi];simp [updK]
   ·rw [if_neg e]
    have:updK pre v y i=pre i:=by unfold updK;rw [if_neg (Ne.symm e)]
    rw [this]
  ·rw [YL (by rw [List.length_set,Qej];omega),YL (by rw [Qej];omega)]
 rw [e1] at hr
 have hcs:=((h1.set ((off v+(pre v).length)*2) (.int .i64 y.1)).set ((off v+(pre v).length)*2+1) (.int .i64 y.2)).other (p:=⟨lb,v,none⟩) (Ne.symm hne) (.slice (some ⟨sb,off v*2,none⟩) ((pre v).length+1) (deg v))
 have hO:=hin v (pre v).length hv (by omega)
 refine⟨hr,fun u hu=>?_,_,hcs,by simp only [List.length_set];exact h2,fun u j x hu hx=>?_⟩
 ·unfold updK
  by_cases e:u=v
  ·subst e;rw [if_pos rfl,YI];exact hd
  ·rw [if_neg e];exact h.le u hu
 ·have old:(pre u)[j]? = some x→(((cs.set ((off v+(pre v).length)*2) (.int .i64 y.1)).set ((off v+(pre v).length)*2+1) (.int .i64 y.2))[(off u+j)*2]? = some (.int .i64 x.1)∧((cs.set ((off v+(pre v).length)*2) (.int .i64 y.1)).set ((off v+(pre v).length)*2+1) (.int .i64 y.2))[(off u+j)*2+1]? = some (.int .i64 x.2)):=fun hx'=>by
   obtain⟨g1,g2⟩:=h3 u j x hu hx'
   have hjl:=(YE hx').1
   have hle:=h.le u hu
   have hnq:off v+(pre v).length≠off u+j:=fun e=>by
    obtain⟨e1,e2⟩:=hsep v u (pre v).length j hv hu (by omega) (by omega) e
    subst e1
    omega
   refine⟨?_,?_⟩
   ·rw [List.getElem?_set_ne (by omega),List.getElem?_set_ne (by omega)];exact g1
   ·rw [List.getElem?_set_ne (by omega),List.getElem?_set_ne (by omega)];exact g2
  unfold updK at hx
  by_cases e:u=v
  ·subst e
   rw [if_pos rfl] at hx
   by_cases hjl:j<(pre u).length
   ·rw [List.getElem?_append_left hjl] at hx
    exact old hx
   ·have hj:=(YE hx).1
    rw [YI,List.length_singleton] at hj
    obtain rfl:j=(pre u).length:=by omega
    rw [List.getElem?_append_right YA,Nat.sub_self] at hx
    obtain rfl:y=x:=by simpa using hx
    refine⟨?_,?_⟩
    ·rw [List.getElem?_set_ne (by omega),List.getElem?_set_self (by rw [h2];omega)]
    ·rw [List.getElem?_set_self (by rw [List.length_set,h2];omega)]
  ·rw [if_neg e] at hx
   exact old hx
theorem infoK:(Tryz.prog.info? 142).map (fun i=>(i.zero,i.size,i.bytes))=some (some (.agg #[.int .i64 0,.int .i64 0]),2,16):=by kernel_rfl
theorem Qp0:(Tryz.prog.info? 140).map (fun i=>(i.zero,i.size,i.bytes))=some (some (.slice none 0 0),1,24):=by kernel_rfl
theorem QdF (n:Nat):(madeCells (Value.slice none 0 0).cells (n*1)).toList=List.replicate n (.slice none 0 0):=by
 apply List.ext_getElem
 ·simp [madeCells]
 ·intro i h1 h2
  simp [madeCells,Value.cells,Nat.mod_one]
theorem Qaa {A B:World}(hb:Below A.heap.size A B){a:Addr}{v:Value}(h:A.cell? a=some v):B.cell? a=some v:=(hb.cell (World.block_lt_of_cell? A a h)).trans h
theorem Qh8 (n:Nat):(madeCells (Value.agg #[.int .i64 0,.int .i64 0]).cells (n*2)).toList.length=n*2:=by
 simp [madeCells]
theorem Qj2 (N:Nat)(l:List Ed)(hR:RightG (N:Int) l)(sv:Value)(w:World)(hl:Edges w.heap.size w sv l):
  Calls Tryz.prog 97 #[.agg #[.int .i64 (N:Int),sv]] w fun r w'=>∃ lb sb,r = .returned (.slice (some ⟨lb,0,none⟩) N N)∧w.heap.size<lb∧w.heap.size<sb∧lb≠sb∧LnkI N lb sb (2*l.length) (offR l (2*l.length)) (fun v=>(nb l (v:Int)).length) (fun v=>Qai (v:Int) 0 l) w'∧Below w.heap.size w w':=by
 have hmix:=mixed
 have hg1:Grew w (w.alloc (.cells #[.int .i64 (N:Int),sv] 24)):=(Grew.refl w).alloc _
 obtain⟨p,c,rfl⟩:=hl.len
 obtain⟨i0,hi,hz0,hz1,hz2⟩:=info_parts Qp0
 obtain⟨k0,hki,hkz0,hkz1,hkz2⟩:=info_parts infoK
 have hn1:=hR.n1
 have hm1:=hR.m1
 have hM2:degS l N=2*l.length:=Qcn fun e he=>(hR.each e he).1
 have hbw:=hg1.below
 have q0:(w.alloc (.cells #[.int .i64 (N:Int),.slice p l.length c] 24)).cell? ⟨w.heap.size,0,none⟩=some (.int .i64 (N:Int)):=Qan rfl rfl
 have q1:(w.alloc (.cells #[.int .i64 (N:Int),.slice p l.length c] 24)).cell? ⟨w.heap.size,1,none⟩=some (.slice p l.length c):=Qan rfl rfl
 have hsz1:(w.alloc (.cells #[.int .i64 (N:Int),.slice p l.length c] 24)).heap.size=w.heap.size+1:=by simp
 go_enter Tryz.func97,Tryz.ntmps97
 go_wp2_with (first | (at_make;refine wpList_make_full _ rfl _ _ 94 rfl (w.alloc (.cells #[.int .i64 (N:Int),.slice p l.length c] 24)).heap.size 140 i0 (.slice none 0 0) 1 Tryz.underlying94 hi hz0 hz1 .i64 .i64 _ _ N rfl rfl rfl rfl (by rw [hz2];omega) (by unfold maxLen;omega) YA ?_;intro w3 hown hgrow;have hb3:Below (w.alloc (.cells #[.int .i64 (N:Int),.slice p l.length c] 24)).heap.size (w.alloc (.cells #[.int .i64 (N:Int),.slice p l.length c] 24)) w3:=YD.grown hgrow YA (fun k e=>by cases e);have x0:=Qaa hb3 q0;have x1:=Qaa hb3 q1) | (at_make;refine wpList_make_full _ rfl _ _ 140 rfl 0 142 k0 (.agg #[.int .i64 0,.int .i64 0]) 2 Tryz.underlying140 hki hkz0 hkz1 .i64 .i64 _ _ (2*l.length) rfl rfl rfl rfl (by rw [hkz2];omega) (by unfold maxLen;omega) YN ?_;intro w4 hown4 hgrow4;have hb4:Below w3.heap.size w3 w4:=YD.grown hgrow4 YA (fun k e=>by cases e);have y0:=Qaa hb4 x0;have y1:=Qaa hb4 x1))
 have hrow:=Blk.made hown
 rw [QdF,hsz1] at hrow
 have hcs:=Blk.made hown4
 have hcl:=Qh8 (2*l.length)
 generalize (madeCells (Value.agg #[.int .i64 0,.int .i64 0]).cells (2*l.length*2)).toList=cs at hcs hcl
 have hrow4:=hrow.go hb4
 have hbw3:=hbw.trans (hb3.mono (by rw [hsz1];omega))
 have hbw4:=hbw3.trans (hb4.mono hbw3.size)
 have hs3:w.heap.size+1<w3.heap.size:=hrow.lt
 have hs4:w3.heap.size<w4.heap.size:=hcs.lt
 clear hown hgrow hi hz0 hz1 hz2 hki hkz0 hkz1 hkz2 hb3 q0 q1 hg1 hbw hrow hown4 hgrow4 hb4 x0 x1 hbw3 hsz1
 generalize w3.heap.size=sb at *
 generalize hlb:w.heap.size+1=lb at *
 refine (Qcy N l hR _ _ (hl.go hbw4)).mono ?_
 rintro e w5 ⟨dv,rfl,hdI,⟨gd,rfl,hgd⟩,hb5⟩
 have hrow5:=hrow4.go hb5
 have hcs5:=hcs.go hb5
 have z0:=Qaa hb5 y0
 have z1:=Qaa hb5 y1
 have hbw5:=hbw4.trans (hb5.mono hbw4.size)
 have hs5:=hb5.size
 have hdI':∀ v,v<N→w5.cell? ⟨gd,v,none⟩=some (.int .i64 ((nb l (v:Int)).length:Int)):=fun v hv=>by
  rcases hdI with ⟨_,h0⟩ | ⟨b,off,cap,h1,h2,h3,h4⟩
  ·have:=congrArg List.length h0;rw [QbW] at this;simp at this;omega
  ·simp only [Value.slice.injEq,Option.some.injEq,Addr.mk.injEq] at h1
   obtain⟨⟨rfl,rfl,_⟩,_,_⟩:=h1
   have:=h4 v _ (QcA (l:=l) (j:=l.length) hv)
   rwa [Nat.zero_add,List.take_length] at this
 have hgd5:N=0∨gd<w5.heap.size:=by
  by_cases h:N=0
  ·exact .inl h
  ·exact .inr (World.block_lt_of_cell? w5 ⟨gd,0,none⟩ (hdI' 0 (by omega)))
 clear hdI hrow4 hcs hb5 y0 y1 hbw4
 go_wp2
 go_loopw [4,20] (fun rv iv wr=>∃ (j:Nat),j≤N∧iv = .int .i64 j∧rv = .slice (some ⟨sb,offR l (2*l.length) j*2,none⟩) (2*l.length-degS l j) (2*l.length-degS l j)∧Blk 140 wr lb (halfK N sb (offR l (2*l.length)) (fun v=>(nb l (v:Int)).length) j)∧w5.grownBy wr (some lb)) (fun _ i _=>N-(intOf i).toNat)
 case atStart=>exact⟨0,YN,rfl,by simp [offR,degS],by rw [Qkm];exact hrow5,⟨rfl,rfl,rfl,YA,fun _ _ _=>rfl⟩⟩
 case round=>
  obtain⟨j,hj,rfl,rfl,hH,hgr⟩:=hrel
  by_cases hlt:j<N
  ·have hgdl:gd<w5.heap.size:=by omega
   have c0:=hgr.cell (hdI' j hlt) (by simp;omega)
   have hjl:(j:Int)<(N:Int):=by omega
   have hdl:=QaX (j:Int) l
   have hgs:=hgr.size
   have o1:=hH.cell (Qd3 hlt)
   have f1:=hH.frozen j
   rw [if_neg (Nat.lt_irrefl j)] at o1
   have hds:degS l (j+1)=degS l j+(nb l (j:Int)).length:=rfl
   have hle:=Qcz (l:=l) (v:=j+1) (n:=N) hlt
   have HST:Hid _:=Qkn (N:=N) (sb:=sb) (off:=offR l (2*l.length)) (deg:=fun v=>(nb l (v:Int)).length) (j:=j)
   have HO:Hid (offR l (2*l.length) (j+1)=if (nb l (j:Int)).length=2*l.length-degS l j then offR l (2*l.length) j else offR l (2*l.length) j+(nb l (j:Int)).length):=rfl
   have hgr6:w5.grownBy (wr.setCell ⟨lb,j,none⟩ (.slice (some ⟨sb,offR l (2*l.length) j*2,none⟩) 0 (nb l (j:Int)).length)).drew (some lb):=by
    refine⟨hgr.os,hgr.tape,hgr.output,by show w5.heap.size≤(wr.setCell _ _).heap.size;simp;exact hgs,fun k hk hne=>?_⟩
    exact (Below.heap_setCell _ _ _ _ (fun e=>hne (by rw [e]))).trans (hgr.block k hk hne)
   have hB7:=hH.set j (.slice (some ⟨sb,offR l (2*l.length) j*2,none⟩) 0 (nb l (j:Int)).length)
   rw [HST.out] at hB7
   have HB7:Hid (Blk 140 (wr.setCell ⟨lb,j,none⟩ (.slice (some ⟨sb,offR l (2*l.length) j*2,none⟩) 0 (nb l (j:Int)).length)).drew lb _):=hB7
   have HG6:Hid _:=hgr6
   rw [hM2,hds] at hle
   have HDS:Hid (degS l (j+1)=degS l j+(nb l (j:Int)).length):=hds
   clear hB7 hgr6 hH hgr hrow5 hcs5 hcl hdI' hl hR hds HST
   generalize (nb l (j:Int)).length=d at *
   generalize degS l j=q at *
   generalize offR l (2*l.length) j=o at *
   generalize 2*l.length=M2 at *
   have hd0:(d:Int)≤((M2-q:Nat):Int):=by omega
   go_wp2
   go_big_region_o
   go_wp2
   refine⟨⟨j+1,by omega,by go_num,?_,HB7.out,HG6.out⟩,by simp [intOf];omega⟩
   rw [HO.out,HDS.out,Nat.sub_sub]
   by_cases he:d=M2-q
   ·rw [if_pos he,if_pos he.symm]
   ·rw [if_neg he,if_neg (Ne.symm he),Nat.add_mul]
  ·obtain rfl:j=N:=by omega
   have hI0:LnkI j lb sb (2*l.length) (offR l (2*l.length)) (fun v=>(nb l (v:Int)).length) (fun v=>Qai (v:Int) 0 (l.take 0)) wr:=by
    refine⟨?_,fun v _=>by simp [Qai],cs,hgr.block sb (by omega) (by simp;omega) |>.trans hcs5,hcl,fun v j x _ hx=>by simp [Qai] at hx⟩
    have:=hH
    rw [Qko] at this
    simpa [Qai] using this
   have y1:=hgr.cell z1 (by simp;omega)
   have hbr:Below lb w5 wr:=⟨hgr.os,hgr.tape,hgr.output,hgr.size,fun k hk=>hgr.block k (by omega) (by simp;omega)⟩
   have hbwr:=hbw5.trans (hbr.mono (by omega))
   clear hH hgr hdI' hrow5 hcs5 hcl z0 z1
   have hsep:=fun u v a b hu hv ha hb he=>QiZ (l:=l) hM2 (u:=u) (v:=v) (j:=a) (k:=b) hu hv ha hb he
   have hin:=fun v a hv ha=>QlE (l:=l) hM2 (v:=v) (j:=a) hv ha
   have Hsep:Hid _:=hsep
   have Hin:Hid _:=hin
   clear hsep hin hM2
   generalize wr=wq at *
   generalize 2*l.length-degS l j=rs
   generalize offR l (2*l.length) j=oj
   go_wp2
   go_loopw [38] (fun i w6=>∃ (i':Nat),i'≤l.length∧i = .int .i64 i'∧LnkI j lb sb (2*l.length) (offR l (2*l.length)) (fun v=>(nb l (v:Int)).length) (fun v=>Qai (v:Int) 0 (l.take i')) w6∧Below lb wq w6) (fun i _=>l.length-(intOf i).toNat)
   case atStart=>exact⟨0,YN,rfl,hI0,YD⟩
   case round=>
    obtain⟨i',hi',rfl,hI,hb⟩:=hrel
    have hbw6:=hbwr.trans (hb.mono (by omega))
    by_cases hlt:i'<l.length
    ·obtain⟨b,off,rfl,hbb,hcap,hc,-⟩:=hl.open hlt
     obtain⟨c0,c1,c2⟩:=hc _ hbw6 i' hlt
     have hok:=(hR.each l[i'] (YG hlt)).1
     unfold okE at hok
     obtain⟨u,hu⟩:∃ u:Nat,l[i'].1=(u:Int):=⟨l[i'].1.toNat,by omega⟩
     obtain⟨v,hv⟩:∃ v:Nat,l[i'].2.1=(v:Int):=⟨l[i'].2.1.toNat,by omega⟩
     have huN:u<j:=by omega
     have hvN:v<j:=by omega
     have hne:u≠v:=by omega
     have huN':(u:Int)<(j:Int):=by omega
     have hvN':(v:Int)<(j:Int):=by omega
     have hjl:(i':Int)<(l.length:Int):=by omega
     have HF:Hid ((fun x:Nat=>Qai (x:Int) 0 (l.take (i'+1)))=updK (updK (fun x:Nat=>Qai (x:Int) 0 (l.take i')) u ((v:Int),(i':Int))) v ((u:Int),(i':Int))):=by
      unfold Hid
      funext x
      rw [QeF hlt]
      unfold updK
      rw [hu,hv]
      by_cases hxv:x=v
      ·subst hxv
       have h1:¬ ((u:Int)=(x:Int)):=by omega
       have h2:¬ x=u:=by omega
       simp [h1,h2]
      ·by_cases hxu:x=u
       ·subst hxu
        simp [hxv]
       ·have h1:¬ ((u:Int)=(x:Int)):=by omega
        have h2:¬ ((v:Int)=(x:Int)):=by omega
        simp [hxv,hxu,h1,h2]
     have hpu:(Qai (u:Int) 0 (l.take i')).length+1≤(nb l (u:Int)).length:=by
      have h1:=QgW l (u:Int) (i'+1)
      rw [Qb5 hlt,YI] at h1
      unfold nbOf at h1
      rw [hu,if_pos rfl] at h1
      rw [QbD]
      simpa using h1
     have hpv:(Qai (v:Int) 0 (l.take i')).length+1≤(nb l (v:Int)).length:=by
      have h1:=QgW l (v:Int) (i'+1)
      rw [Qb5 hlt,YI] at h1
      unfold nbOf at h1
      rw [hu,hv,if_neg (by omega),if_pos rfl] at h1
      rw [QbD]
      simpa using h1
     rw [hu] at c0
     rw [hv] at c1
     have hul:=QaX (u:Int) l
     have hvl:=QaX (v:Int) l
     have hP1:=hI.push (by omega) Hsep.out Hin.out huN ((v:Int),(i':Int)) hpu
     have hlen2:(updK (fun x:Nat=>Qai (x:Int) 0 (l.take i')) u ((v:Int),(i':Int)) v).length+1≤(nb l (v:Int)).length:=by
      unfold updK;rw [if_neg (Ne.symm hne)];exact hpv
     have o1:=hI.row.cell (QcM huN)
     have fo1:=hI.row.frozen u
     obtain⟨cq,hcq,hcql,-⟩:=hI.cur
     have hiu:=Hin.out u (Qai (u:Int) 0 (l.take i')).length huN hpu
     obtain⟨z0,hz0⟩:∃ z,wr.cell? ⟨sb,(offR l (2*l.length) u+(Qai (u:Int) 0 (l.take i')).length)*2,none⟩=some z:=⟨_,hcq.cell (YB (by rw [hcql];omega))⟩
     obtain⟨z1,hz1⟩:∃ z,wr.cell? ⟨sb,(offR l (2*l.length) u+(Qai (u:Int) 0 (l.take i')).length)*2+1,none⟩=some z:=⟨_,hcq.cell (YB (by rw [hcql];omega))⟩
     have fz0:=hcq.frozen ((offR l (2*l.length) u+(Qai (u:Int) 0 (l.take i')).length)*2)
     have fz1:=hcq.frozen ((offR l (2*l.length) u+(Qai (u:Int) 0 (l.take i')).length)*2+1)
     have hlbl:=hI.row.lt
     have hsbl:=hcq.lt
     have HP1:Hid _:=hP1
     rw [Nat.add_mul] at HP1 hz0 hz1 fz0 fz1
     have HI:Hid _:=hI
     have HL2:Hid _:=hlen2
     have HC:Hid _:=hb
     have HW6:Hid _:=hbw6
     have HW0:Hid _:=hbwr
     have HLT:Hid (i'<l.length):=hlt
     have hbq:b≠lb∧b≠sb:=by omega
     obtain⟨hb1,hb2⟩:=hbq
     clear hc hok hu hv hI hP1 hcq hcql hlen2 hb hbw6 hI0 hbr hbwr hpv y1 hgd5 hR
     generalize (Qai (u:Int) 0 (l.take i')).length=pu at *
     generalize (nb l (u:Int)).length=du at *
     generalize offR l (2*l.length) u*2=ou at *
     generalize l[i'].2.2=wv at c2
     go_wp2
     go_big_region_o
     have hsz2:(((wr.setCell ⟨sb,ou+pu*2,none⟩ (.int .i64 (v:Int))).setCell ⟨sb,ou+pu*2+1,none⟩ (.int .i64 (i':Int))).setCell ⟨lb,u,none⟩ (.slice (some ⟨sb,ou,none⟩) (pu+1) du)).heap.size=wr.heap.size:=by simp
     have hgr2:Grew (((wr.setCell ⟨sb,ou+pu*2,none⟩ (.int .i64 (v:Int))).setCell ⟨sb,ou+pu*2+1,none⟩ (.int .i64 (i':Int))).setCell ⟨lb,u,none⟩ (.slice (some ⟨sb,ou,none⟩) (pu+1) du)) ((((((wr.setCell ⟨sb,ou+pu*2,none⟩ (.int .i64 (v:Int))).setCell ⟨sb,ou+pu*2+1,none⟩ (.int .i64 (i':Int))).setCell ⟨lb,u,none⟩ (.slice (some ⟨sb,ou,none⟩) (pu+1) du)).alloc (.cells #[.int .i64 (u:Int),.int .i64 (v:Int),.int .i64 wv] 50)).alloc (.cells #[.int .i64 (v:Int),.int .i64 (i':Int)] 142)).drew):=(((Grew.refl _).alloc _).alloc _).drewN 1
     have hI2:=HP1.out.go hgr2.below
     have hb2':Below lb wr (((wr.setCell ⟨sb,ou+pu*2,none⟩ (.int .i64 (v:Int))).setCell ⟨sb,ou+pu*2+1,none⟩ (.int .i64 (i':Int))).setCell ⟨lb,u,none⟩ (.slice (some ⟨sb,ou,none⟩) (pu+1) du)):=((YD.setCell (p:=⟨sb,_,none⟩) (by simp only;omega) _).setCell (p:=⟨sb,_,none⟩) (by simp only;omega) _).setCell (p:=⟨lb,u,none⟩) YA _
     have hb3:Below lb wq ((((((wr.setCell ⟨sb,ou+pu*2,none⟩ (.int .i64 (v:Int))).setCell ⟨sb,ou+pu*2+1,none⟩ (.int .i64 (i':Int))).setCell ⟨lb,u,none⟩ (.slice (some ⟨sb,ou,none⟩) (pu+1) du)).alloc (.cells #[.int .i64 (u:Int),.int .i64 (v:Int),.int .i64 wv] 50)).alloc (.cells #[.int .i64 (v:Int),.int .i64 (i':Int)] 142)).drew):=(HC.out.trans hb2').trans (hgr2.below.mono (by rw [hsz2];omega))
     have e0:((((((wr.setCell ⟨sb,ou+pu*2,none⟩ (.int .i64 (v:Int))).setCell ⟨sb,ou+pu*2+1,none⟩ (.int .i64 (i':Int))).setCell ⟨lb,u,none⟩ (.slice (some ⟨sb,ou,none⟩) (pu+1) du)).alloc (.cells #[.int .i64 (u:Int),.int .i64 (v:Int),.int .i64 wv] 50)).alloc (.cells #[.int .i64 (v:Int),.int .i64 (i':Int)] 142)).drew).cell? ⟨wr.heap.size,0,none⟩=some (.int .i64 (u:Int)):=by go_simp
     have e1:((((((wr.setCell ⟨sb,ou+pu*2,none⟩ (.int .i64 (v:Int))).setCell ⟨sb,ou+pu*2+1,none⟩ (.int .i64 (i':Int))).setCell ⟨lb,u,none⟩ (.slice (some ⟨sb,ou,none⟩) (pu+1) du)).alloc (.cells #[.int .i64 (u:Int),.int .i64 (v:Int),.int .i64 wv] 50)).alloc (.cells #[.int .i64 (v:Int),.int .i64 (i':Int)] 142)).drew).cell? ⟨wr.heap.size,1,none⟩=some (.int .i64 (v:Int)):=by go_simp
     have hs6:wr.heap.size<((((((wr.setCell ⟨sb,ou+pu*2,none⟩ (.int .i64 (v:Int))).setCell ⟨sb,ou+pu*2+1,none⟩ (.int .i64 (i':Int))).setCell ⟨lb,u,none⟩ (.slice (some ⟨sb,ou,none⟩) (pu+1) du)).alloc (.cells #[.int .i64 (u:Int),.int .i64 (v:Int),.int .i64 wv] 50)).alloc (.cells #[.int .i64 (v:Int),.int .i64 (i':Int)] 142)).drew).heap.size:=by simp;omega
     generalize (((((wr.setCell ⟨sb,ou+pu*2,none⟩ (.int .i64 (v:Int))).setCell ⟨sb,ou+pu*2+1,none⟩ (.int .i64 (i':Int))).setCell ⟨lb,u,none⟩ (.slice (some ⟨sb,ou,none⟩) (pu+1) du)).alloc (.cells #[.int .i64 (u:Int),.int .i64 (v:Int),.int .i64 wv] 50)).alloc (.cells #[.int .i64 (v:Int),.int .i64 (i':Int)] 142)).drew=w7 at hI2 hb3 e0 e1 hs6 ⊢
     clear HP1 hgr2 hsz2 hb2' o1 fo1 hz0 hz1 fz0 fz1 c0 c1 c2 HI
     have hP2:=hI2.push (by omega) Hsep.out Hin.out hvN ((u:Int),(i':Int)) HL2.out
     rw [← HF.out] at hP2
     have o2:=hI2.row.cell (QcM hvN)
     have fo2:=hI2.row.frozen v
     obtain⟨cq2,hcq,hcql,-⟩:=hI2.cur
     have hiv:=Hin.out v (updK (fun x:Nat=>Qai (x:Int) 0 (l.take i')) u ((v:Int),(i':Int)) v).length hvN HL2.out
     obtain⟨z2,hz2⟩:∃ z,w7.cell? ⟨sb,(offR l (2*l.length) v+(updK (fun x:Nat=>Qai (x:Int) 0 (l.take i')) u ((v:Int),(i':Int)) v).length)*2,none⟩=some z:=⟨_,hcq.cell (YB (by rw [hcql];omega))⟩
     obtain⟨z3,hz3⟩:∃ z,w7.cell? ⟨sb,(offR l (2*l.length) v+(updK (fun x:Nat=>Qai (x:Int) 0 (l.take i')) u ((v:Int),(i':Int)) v).length)*2+1,none⟩=some z:=⟨_,hcq.cell (YB (by rw [hcql];omega))⟩
     have fz2:=hcq.frozen ((offR l (2*l.length) v+(updK (fun x:Nat=>Qai (x:Int) 0 (l.take i')) u ((v:Int),(i':Int)) v).length)*2)
     have fz3:=hcq.frozen ((offR l (2*l.length) v+(updK (fun x:Nat=>Qai (x:Int) 0 (l.take i')) u ((v:Int),(i':Int)) v).length)*2+1)
     have hl7:=hI2.row.lt
     have hs7:=hcq.lt
     have HP2:Hid _:=hP2
     have hlen2:=HL2.out
     rw [Nat.add_mul] at HP2 hz2 hz3 fz2 fz3
     clear hP2 hI2 hcq hcql hiv HL2
     generalize (updK (fun x:Nat=>Qai (x:Int) 0 (l.take i')) u ((v:Int),(i':Int)) v).length=pv at *
     generalize (nb l (v:Int)).length=dv at *
     generalize offR l (2*l.length) v*2=ov at *
     have hgr3:Grew (((w7.setCell ⟨sb,ov+pv*2,none⟩ (.int .i64 (u:Int))).setCell ⟨sb,ov+pv*2+1,none⟩ (.int .i64 (i':Int))).setCell ⟨lb,v,none⟩ (.slice (some ⟨sb,ov,none⟩) (pv+1) dv)) (((((w7.setCell ⟨sb,ov+pv*2,none⟩ (.int .i64 (u:Int))).setCell ⟨sb,ov+pv*2+1,none⟩ (.int .i64 (i':Int))).setCell ⟨lb,v,none⟩ (.slice (some ⟨sb,ov,none⟩) (pv+1) dv)).alloc (.cells #[.int .i64 (u:Int),.int .i64 (i':Int)] 142)).drew):=((Grew.refl _).alloc _).drewN 1
     have hsz3:(((w7.setCell ⟨sb,ov+pv*2,none⟩ (.int .i64 (u:Int))).setCell ⟨sb,ov+pv*2+1,none⟩ (.int .i64 (i':Int))).setCell ⟨lb,v,none⟩ (.slice (some ⟨sb,ov,none⟩) (pv+1) dv)).heap.size=w7.heap.size:=by simp
     have HI3:Hid _:=HP2.out.go hgr3.below
     have hb4:Below lb w7 (((w7.setCell ⟨sb,ov+pv*2,none⟩ (.int .i64 (u:Int))).setCell ⟨sb,ov+pv*2+1,none⟩ (.int .i64 (i':Int))).setCell ⟨lb,v,none⟩ (.slice (some ⟨sb,ov,none⟩) (pv+1) dv)):=((YD.setCell (p:=⟨sb,_,none⟩) (by simp only;omega) _).setCell (p:=⟨sb,_,none⟩) (by simp only;omega) _).setCell (p:=⟨lb,v,none⟩) YA _
     have HB5:Hid (Below lb wq (((((w7.setCell ⟨sb,ov+pv*2,none⟩ (.int .i64 (u:Int))).setCell ⟨sb,ov+pv*2+1,none⟩ (.int .i64 (i':Int))).setCell ⟨lb,v,none⟩ (.slice (some ⟨sb,ov,none⟩) (pv+1) dv)).alloc (.cells #[.int .i64 (u:Int),.int .i64 (i':Int)] 142)).drew)):=(hb3.trans hb4).trans (hgr3.below.mono (by rw [hsz3];omega))
     have hse:sb≠wr.heap.size:=by omega
     have hle:lb≠wr.heap.size:=by omega
     have hls:lb≠sb:=by omega
     clear hgr3 hsz3 hb4 hb3 HP2 HF hl hbb hcap hb1 hb2 hlbl hsbl hs3 hs4 hs5 hgd hlb hbw5 HC HW6 HW0 Hsep Hin hpu hul hiu hi' hlt hjl huN huN'
     generalize wr.heap.size=eb at *
     go_wp2
     refine Qah (S:=(fun w':World=>w'.cell? ⟨eb,0,none⟩=some (.int .i64 (u:Int))∧w'.cell? ⟨eb,1,none⟩=some (.int .i64 (v:Int))∧w'.cell? ⟨lb,v,none⟩=some (.slice (some ⟨sb,ov,none⟩) pv dv))) (by kernel_rfl) ?_ (fun hHeld=>?_)
     ·(try dsimp only);go_keep
     refine tL 0 ?_
     try simp only [YS]
     refine tL 1 ?_
     refine tL 2 ?_
     refine tL 3 ?_
     refine tL 4 ?_
     refine tL 5 ?_
     refine tL 6 ?_
     refine tL 7 ?_
     refine tL 8 ?_
     refine tL 9 ?_
     refine tL 10 ?_
     refine tL 11 ?_
     refine Qad (rs:=[12]) (by kernel_rfl) (by simp) ?_
     refine AllReadyL.cons rfl (fun K hK=>?_) AllReadyL.nil
     go_simp
     refine hK.out _ _ ?_ (fun hHeld=>?_)
     ·(try dsimp only);first | (go_keep;done) | ((repeat' apply And.intro) <;> go_simp)
     clear hK K
     try simp only [Act.put,YS,YT,YU]
     refine Qad (rs:=[13]) (by kernel_rfl) (by simp) ?_
     refine AllReadyL.cons rfl (fun K hK=>?_) AllReadyL.nil
     go_simp
     refine hK.out _ _ ?_ (fun hHeld=>?_)
     ·(try dsimp only);first | (go_keep;done) | ((repeat' apply And.intro) <;> go_simp)
     clear hK K
     try simp only [Act.put,YS,YT,YU]
     refine tL 14 ?_
     try simp only [YS]
     refine Qad (rs:=[15]) (by kernel_rfl) (by simp) ?_
     refine AllReadyL.last rfl (by kernel_rfl) (fun K hK=>?_)
     go_simp
     refine hK.out _ _ ?_
     clear hK K
     try simp only [Act.put,YS,YT,YU]
     refine Qaj (by kernel_rfl) ?_ _
     have hlt2:=HLT.out
     go_wp2
     exact⟨⟨i'+1,HLT.out,by go_num,HI3.out,HB5.out⟩,by have:=HLT.out;simp [intOf];omega⟩
    ·obtain rfl:i'=l.length:=by omega
     rw [List.take_length] at hI
     go_wp2
     go_ret
     exact⟨lb,sb,rfl,by omega,by omega,by omega,hI,hbw6⟩
end Go.Proofs.YtalflecmadacaaaGreat
