import Derived.Deep.QuietTactic
import Derived.BigQuiet
import Derived.Deep.RegionHeld3
import Derived.Test.YtalflecmadacaaaGreatZAB
import Derived.Test.YtalflecmadacaaaGreatZAP
import Derived.OwnWalk
import Derived.Laws.OwnMore
import Derived.Maps.AppendAt
import Derived.Test.YtalflecmadacaaaGreatZAD
set_option maxRecDepth 100000
set_option maxHeartbeats 8000000
namespace Go.Proofs.YtalflecmadacaaaGreat
open Go Go.Proofs Go.RowKit
structure Tch (g:Nat)(A B:World):Prop where
 os:B.os=A.os
 tape:B.tape=A.tape
 output:B.output=A.output
 size:A.heap.size≤B.heap.size
 block:∀ k,k<A.heap.size→k≠g→B.heap[k]? = A.heap[k]?
theorem Tch.refl (g:Nat)(A:World):Tch g A A:=⟨rfl,rfl,rfl,YA,fun _ _ _=>rfl⟩
theorem Tch.trans {g:Nat}{A B C:World}(h:Tch g A B)(h':Tch g B C):Tch g A C:=
 ⟨h'.os.trans h.os,h'.tape.trans h.tape,h'.output.trans h.output,Nat.le_trans h.size h'.size,fun k hk hg=>(h'.block k (Nat.lt_of_lt_of_le hk h.size) hg).trans (h.block k hk hg)⟩
theorem Tch.drew {g:Nat}{A B:World}(h:Tch g A B):Tch g A B.drew:=⟨h.os,h.tape,h.output,h.size,h.block⟩
theorem Tch.set {g:Nat}{A B:World}(h:Tch g A B)(j:Nat)(v:Value):Tch g A (B.setCell ⟨g,j,none⟩ v):=
 ⟨h.os,h.tape,h.output,by simpa using h.size,fun k hk hg=>(heap_setCell_other _ ⟨g,j,none⟩ k _ hg).trans (h.block k hk hg)⟩
theorem Tch.below {g n:Nat}{w A B:World}(hb:Below n w A)(h:Tch g A B)(hg:n≤g)(hn:n≤A.heap.size):Below n w B:=
 ⟨h.os.trans hb.os,h.tape.trans hb.tape,h.output.trans hb.output,Nat.le_trans hb.size h.size,fun k hk=>(h.block k (by omega) (by omega)).trans (hb.block k hk)⟩
theorem Tch.of_below {g:Nat}{A B:World}(h:Below A.heap.size A B):Tch g A B:=⟨h.os,h.tape,h.output,h.size,fun k hk _=>h.block k hk⟩
theorem Tch.cell {g:Nat}{A B:World}(h:Tch g A B){b o:Nat}{v:Value}(hv:A.cell? ⟨b,o,none⟩=some v)(hb:b≠g):B.cell? ⟨b,o,none⟩=some v:=
 (World.cell?_of_block (a:=⟨b,o,none⟩) (h.block b (World.block_lt_of_cell? A _ hv) hb)).trans hv
def natsV (P:List Nat):List Value:=P.map fun x:Nat=>Value.int .i64 (x:Int)
theorem QcX (P:List Nat)(v x:Nat):natsV (P.set v x)=(natsV P).set v (.int .i64 (x:Int)):=by simp [natsV,List.map_set]
theorem QcY {P:List Nat}{v:Nat}(h:v<P.length):(natsV P)[v]? = some (.int .i64 (pf P v:Int)):=by
 unfold natsV
 rw [YH,pf_get? h];rfl
theorem QfR (l:List Eg)(N k:Nat)(P:List Nat)(R:Nat→Nat)(hU:UF l N k P R)(v:Nat)(hv:v<N)(lb g:Nat)(hne:lb≠g)(w:World)(hlb:w.cell? ⟨lb,0,none⟩=some (.slice (some ⟨g,0,none⟩) N N))(hB:Blk 3 w g (natsV P)):
  Calls Tryz.prog 84 #[.int .i64 (v:Int),.pointer (some ⟨lb,0,none⟩)] w fun e w'=>e = .returned (.int .i64 (R v:Int))∧∃ P',UF l N k P' R∧pf P' (R v)=R v∧(∀ i,i<N→pf P i=R i→pf P' i=R i)∧Blk 3 w' g (natsV P')∧Tch g w w':=by
 have hmix:=mixed
 have HU:Hid _:=hU
 have HBk:Hid _:=hB
 clear hU hB
 go_enter Tryz.func84,Tryz.ntmps84
 go_wp2
 go_loopw [0] (fun t wr=>∃ (x:Nat) (P':List Nat),t = .int .i64 (x:Int)∧x<N∧Hid (R x=R v)∧Hid (UF l N k P' R)∧Hid (∀ i,i<N→pf P i=R i→pf P' i=R i)∧Hid (Blk 3 wr g (natsV P'))∧Hid (Tch g w wr)) (fun t _=>(intOf t).toNat)
 case atStart=>exact⟨v,P,rfl,hv,rfl,HU,fun _ _ h=>h,HBk,Tch.refl _ _⟩
 case round=>
  obtain⟨x,P',rfl,hx,HR,HU',HS',HB',HT⟩:=hrel
  have hl:P'.length=N:=HU'.out.len
  have hxP:x<P'.length:=by omega
  have hy:=HU'.out.le x hx
  have c0:=HT.out.cell hlb hne
  have c1:wr.cell? ⟨g,x,none⟩=some (.int .i64 (pf P' x:Int)):=HB'.out.cell (QcY hxP)
  have c2:wr.cell? ⟨g,pf P' x,none⟩=some (.int .i64 (pf P' (pf P' x):Int)):=HB'.out.cell (QcY (by omega))
  have f1:=HB'.out.frozen x
  have hxi:(x:Int)<(N:Int):=by omega
  have hyi:(pf P' x:Int)<(N:Int):=by omega
  have Hl:Hid _:=hl
  have HPx:Hid _:=hxP
  clear hl hxP
  by_cases he:pf P' x=x
  ·have heb:((pf P' x:Int)==(x:Int))=true:=by rw [he];simp
   have HE:Hid _:=he
   clear he c2
   go_wp2
   go_ret
   have hrx:=HU'.out.root x hx HE.out
   have e1:R v=x:=HR.out.symm.trans hrx
   exact⟨by rw [e1];rfl,P',HU'.out,by rw [e1];exact HE.out,HS'.out,HB'.out,HT.out⟩
  ·have heb:((pf P' x:Int)==(x:Int))=false:=by rw [beq_eq_false_iff_ne];omega
   have hlt:pf P' x<x:=by omega
   have hz:=HU'.out.le (pf P' x) (by omega)
   have HU2:Hid _:=HU'.out.half hx
   have HS2:Hid (∀ i,i<N→pf P i=R i→pf (P'.set x (pf P' (pf P' x))) i=R i):=fun i hi h=>HU'.out.stays hx hi (HS'.out i hi h)
   have HB2:Hid (Blk 3 (wr.setCell ⟨g,x,none⟩ (.int .i64 (pf P' (pf P' x):Int))) g (natsV (P'.set x (pf P' (pf P' x))))):=by
    have:=HB'.out.set x (.int .i64 (pf P' (pf P' x):Int))
    rw [← QcX] at this
    exact this
   have HT2:Hid _:=HT.out.set x (.int .i64 (pf P' (pf P' x):Int))
   have HRz:Hid (R (pf P' (pf P' x))=R v):=by
    show R (pf P' (pf P' x))=R v
    rw [HU'.out.par _ (by omega),HU'.out.par _ hx];exact HR.out
   have Hset:Hid (pf (P'.set x (pf P' (pf P' x))) x=pf P' (pf P' x)):=by
    show pf (P'.set x (pf P' (pf P' x))) x=pf P' (pf P' x)
    rw [QbW HPx.out,if_pos rfl]
   generalize hy1:pf P' x=y at *
   generalize hz1:pf P' y=z at *
   clear he hy1 hz1
   go_wp2
   go_big_region_o
   go_wp2
   go_roundw
   case rel=>exact⟨z,_,rfl,by omega,HRz,HU2,HS2,HB2,HT2.out.drew⟩
   case measure=>simp [intOf];omega
theorem QlH:(Tryz.prog.info? 27).map (fun i=>(i.zero,i.size,i.bytes))=some (some (.slice none 0 0),1,24):=by kernel_rfl
theorem Qa4 {A B:World}{base:Nat}{e:TypeId}{size:Nat}{v:Value}{n:Nat}{xs:List Value}{r:Option Nat}(h:A.ownsRow base e size v n xs)(hg:A.grownBy B r)(hne:v.ownBlock=none∨v.ownBlock≠r):B.ownsRow base e size v n xs:=h.kept hg hne
theorem grown_below'T {A B:World}(h:Below A.heap.size A B)(r:Option Nat):A.grownBy B r:=⟨h.os,h.tape,h.output,h.size,fun k hk _=>h.block k hk⟩
structure GrpT (h0:Nat)(lv:Value)(svs:List Value)(pre:List (List Int))(W:World):Prop where
 len:svs.length=pre.length
 own:W.ownsRow h0 27 1 lv svs.length svs
 inn:∀ (k:Nat) (sv:Value) (xs:List Int),svs[k]? = some sv→pre[k]? = some xs→W.ownsRow h0 3 1 sv xs.length (xs.map (Value.int .i64))
 apart:∀ (k j:Nat) (sv sv':Value),svs[k]? = some sv→svs[j]? = some sv'→k≠j→sv.ownBlock=none∨sv.ownBlock≠sv'.ownBlock
 outer:∀ (k:Nat) (sv:Value),svs[k]? = some sv→sv.ownBlock=none∨sv.ownBlock≠lv.ownBlock
theorem GrpT.go {h0:Nat}{lv:Value}{svs:List Value}{pre:List (List Int)}{A B:World}(h:GrpT h0 lv svs pre A)(hb:Below A.heap.size A B):GrpT h0 lv svs pre B:=by
 have hk:∀ {e:TypeId} {size:Nat} {v:Value} {n:Nat} {xs:List Value},A.ownsRow h0 e size v n xs→B.ownsRow h0 e size v n xs:=fun {e size v n xs} ho=>by
  refine Qa4 ho (grown_below'T hb none) ?_
  cases v.ownBlock with
  | none=>exact .inl rfl
  | some k=>exact .inr (by simp)
 exact⟨h.len,hk h.own,fun k sv xs h1 h2=>hk (h.inn k sv xs h1 h2),h.apart,h.outer⟩
theorem GrpT.push {h0 g cap k:Nat}{svs:List Value}{pre:List (List Int)}{W B:World}{o:Obj}{sv sv':Value}{xs:List Int}{y:Int}(h:GrpT h0 (.slice (some ⟨g,0,none⟩) svs.length cap) svs pre W)(hk:svs[k]? = some sv)(hp:pre[k]? = some xs)
  (hB:B.ownsRow h0 3 1 sv' (xs.length+1) (xs.map (Value.int .i64)++[.int .i64 y])) (hg:(W.alloc o).grownBy B sv.ownBlock) (hat:sv'.ownBlock=sv.ownBlock∨sv'.ownBlock=some (W.alloc o).heap.size):GrpT h0 (.slice (some ⟨g,0,none⟩) svs.length cap) (svs.set k sv') (pre.set k (xs++[y])) (B.setCell ⟨g,k,none⟩ sv'):=by
 have hlen:=h.len
 have hkl:=(YE hk).1
 have hgl:g<W.heap.size:=(h.own.lt g rfl).2
 have hkW:∀ {e:TypeId} {size:Nat} {v:Value} {n:Nat} {zs:List Value},W.ownsRow h0 e size v n zs→(v.ownBlock=none∨v.ownBlock≠sv.ownBlock)→B.ownsRow h0 e size v n zs:=fun {e size v n zs} ho hne=>Qa4 (World.ownsRow.alloc ho o) hg hne
 have hout:=h.outer k sv hk
 have hlvne:(Value.slice (some ⟨g,0,none⟩) svs.length cap).ownBlock=none∨(Value.slice (some ⟨g,0,none⟩) svs.length cap).ownBlock≠sv.ownBlock:=by
  refine .inr fun e=>?_
  rcases hout with h1 | h1
  ·rw [h1] at e;cases e
  ·exact h1 e.symm
 have hlvB:=hkW h.own hlvne
 obtain⟨hst,hsg⟩:=hlvB.stored k sv'
 have hsvg:sv'.ownBlock=none∨sv'.ownBlock≠some g:=by
  rcases hat with e | e
  ·rw [e];exact hout
  ·rw [e]
   refine .inr fun e2=>?_
   simp at e2
   omega
 have split:∀ {j:Nat} {x:Value},(svs.set k sv')[j]? = some x→(j≠k∧svs[j]? = some x)∨(j=k∧x=sv'):=fun {j x} hx=>by
  rw [List.getElem?_set] at hx
  by_cases hj:k=j
  ·subst hj
   rw [if_pos rfl,if_pos hkl] at hx
   exact .inr ⟨rfl,(Option.some.inj hx).symm⟩
  ·rw [if_neg hj] at hx
   exact .inl ⟨Ne.symm hj,hx⟩
 have far:∀ {j:Nat} {x:Value},svs[j]? = some x→x.ownBlock=none∨∀ m,W.heap.size≤m→x.ownBlock≠some m:=fun {j x} hx=>by
  have hj:=(YE hx).1
  obtain⟨zs,hzs⟩:∃ zs,pre[j]? = some zs:=⟨_,YB (by omega)⟩
  cases hv:x.ownBlock with
  | none=>exact .inl rfl
  | some b=>
   refine .inr fun m hm e=>?_
   have:=((h.inn j x zs hx hzs).lt b hv).2
   simp only [Option.some.injEq] at e
   omega
 refine⟨by simp [hlen],by rw [List.length_set];exact hst,?_,?_,?_⟩
 ·intro j x zs hx hz
  rcases split hx with ⟨hj,hx⟩ | ⟨rfl,rfl⟩
  ·rw [List.getElem?_set_ne (Ne.symm hj)] at hz
   refine Qa4 (hkW (h.inn j x zs hx hz) (h.apart j k x sv hx hk hj)) hsg ?_
   exact h.outer j x hx
  ·rw [List.getElem?_set_self (by omega)] at hz
   cases hz
   rw [YI,List.map_append]
   exact Qa4 hB hsg hsvg
 ·intro i j x x' hx hx' hij
  rcases split hx with ⟨hi,hy⟩ | ⟨rfl,rfl⟩
  ·rcases split hx' with ⟨hj,hy'⟩ | ⟨rfl,rfl⟩
   ·exact h.apart i j x x' hy hy' hij
   ·rcases hat with e | e
    ·rw [e];exact h.apart i j x sv hy hk hi
    ·rw [e]
     rcases far hy with h1 | h1
     ·exact .inl h1
     ·exact .inr (h1 _ (by simp))
  ·rcases split hx' with ⟨hj,hy'⟩ | ⟨rfl,rfl⟩
   ·rcases hat with e | e
    ·rw [e];exact h.apart i j sv x' hk hy' hij
    ·rw [e]
     refine .inr fun e2=>?_
     rcases far hy' with h1 | h1
     ·rw [h1] at e2;cases e2
     ·exact h1 _ (by simp) e2.symm
   ·exact absurd rfl hij
 ·intro j x hx
  rcases split hx with ⟨hj,hx⟩ | ⟨rfl,rfl⟩
  ·exact h.outer j x hx
  ·exact hsvg
theorem Qa3 {W:World}{base:Nat}{e:TypeId}{size:Nat}{v:Value}{n:Nat}{xs:List Value}(h:W.ownsRow base e size v n xs):∃ a m c,v = .slice a m c:=by
 rcases h.2 with ⟨hv,_⟩ | ⟨g,cap,cur,hv,_⟩ <;> exact⟨_,_,_,hv⟩
theorem Qan {W:World}{base:Nat}{e:TypeId}{size:Nat}{v:Value}{n:Nat}{xs:List Value}(h:W.ownsRow base e size v n xs):∃ p c,v = .slice p n c:=by
 rcases h.2 with ⟨rfl,rfl⟩ | ⟨g,cap,cur,rfl,_⟩ <;> exact⟨_,_,rfl⟩
theorem Qbi (W:World)(v:Value)(t:TypeId):∀ (q:Nat) (u:Value),[v][q]? = some u→(W.alloc (.cells #[v] t)).cell? ((⟨W.heap.size,0,none⟩:Addr).add q)=some u:=by
 intro q u hu
 cases q with
 | zero=>simp at hu;subst hu;simp [Addr.add]
 | succ q=>simp at hu
theorem QcP {w:World}{base size n:Nat}{e:TypeId}{v:Value}{xs:List Value}(h:w.ownsRow base e size v n xs)(hn:0<n):∃ g cap,v = .slice (some ⟨g,0,none⟩) n cap:=by
 rcases h.2 with ⟨_,h0⟩ | ⟨g,cap,cur,hv,_⟩
 ·omega
 ·exact⟨g,cap,hv⟩
theorem Qbb (n:Nat):(madeCells (Value.slice none 0 0).cells (n*1)).toList=List.replicate n (.slice none 0 0):=by
 apply List.ext_getElem
 ·simp [madeCells]
 ·intro i h1 h2
  simp [madeCells,Value.cells,Nat.mod_one]
theorem QaW {W:World}{a b:Nat}{e:TypeId}{size:Nat}{v:Value}{n:Nat}{xs:List Value}(h:W.ownsRow b e size v n xs)(hab:a≤b):W.ownsRow a e size v n xs:=by
 obtain⟨h1,h2⟩:=h
 refine⟨h1,?_⟩
 rcases h2 with h2 | ⟨g,cap,cur,hv,hb,r⟩
 ·exact .inl h2
 ·exact .inr ⟨g,cap,cur,hv,Nat.le_trans hab hb,r⟩
theorem Qaq {w w':World}{base:Nat}{e:TypeId}{size:Nat}{v:Value}{n:Nat}{xs:List Value}(h:w.ownsRow base e size v n xs)(hb:Below w.heap.size w w'):w'.ownsRow base e size v n xs:=by
 refine h.kept (row:=none) (⟨hb.os,hb.tape,hb.output,hb.size,fun k hk _=>hb.block k hk⟩:w.grownBy w' none) ?_
 cases v.ownBlock with
 | none=>exact .inl rfl
 | some k=>exact .inr (by simp)
theorem GrpT.made {h0 g N:Nat}{W:World}(h:W.ownsRow h0 27 1 (.slice (some ⟨g,0,none⟩) N N) N (madeCells (Value.slice none 0 0).cells (N*1)).toList):GrpT h0 (.slice (some ⟨g,0,none⟩) N N) (List.replicate N (.slice none 0 0)) (List.replicate N []) W:=by
 rw [Qbb] at h
 have hnil:∀ {k:Nat} {sv:Value},(List.replicate N (Value.slice none 0 0))[k]? = some sv→sv = .slice none 0 0:=fun {k sv} hk=>by
  have:=YK hk
  exact (List.mem_replicate.1 this).2
 refine⟨by simp,by rw [List.length_replicate];exact h,fun k sv xs h1 h2=>?_,fun k j sv sv' h1 h2 _=>.inl (by rw [hnil h1];rfl),fun k sv h1=>.inl (by rw [hnil h1];rfl)⟩
 have e1:=hnil h1
 have e2:xs=[]:=(List.mem_replicate.1 (YK h2)).2
 subst e1;subst e2
 exact World.ownsRow_nil _ _ _ _
theorem GrpT.put {h0 g cap k:Nat}{svs:List Value}{pre:List (List Int)}{W B:World}{sv':Value}{xs:List Int}(h:GrpT h0 (.slice (some ⟨g,0,none⟩) svs.length cap) svs pre W)(hk:k<svs.length)(hh:h0≤W.heap.size)(hb:Below W.heap.size W B)
  (hB:B.ownsRow W.heap.size 3 1 sv' xs.length (xs.map (Value.int .i64))):GrpT h0 (.slice (some ⟨g,0,none⟩) svs.length cap) (svs.set k sv') (pre.set k xs) (B.setCell ⟨g,k,none⟩ sv'):=by
 have hlen:=h.len
 have hgl:g<W.heap.size:=(h.own.lt g rfl).2
 have hlvB:=Qaq h.own hb
 obtain⟨hst,hsg⟩:=hlvB.stored k sv'
 have hsvg:sv'.ownBlock=none∨sv'.ownBlock≠some g:=by
  cases hv:sv'.ownBlock with
  | none=>exact .inl rfl
  | some b=>
   refine .inr fun e=>?_
   have:=(hB.lt b hv).1
   simp at e
   omega
 have split:∀ {j:Nat} {x:Value},(svs.set k sv')[j]? = some x→(j≠k∧svs[j]? = some x)∨(j=k∧x=sv'):=fun {j x} hx=>by
  rw [List.getElem?_set] at hx
  by_cases hj:k=j
  ·subst hj
   rw [if_pos rfl,if_pos hk] at hx
   exact .inr ⟨rfl,(Option.some.inj hx).symm⟩
  ·rw [if_neg hj] at hx
   exact .inl ⟨Ne.symm hj,hx⟩
 have far:∀ {j:Nat} {x:Value},svs[j]? = some x→∀ b,x.ownBlock=some b→b<W.heap.size:=fun {j x} hx b hv=>by
  have hj:=(YE hx).1
  exact ((h.inn j x _ hx (YB (by omega))).lt b hv).2
 refine⟨by simp [hlen],by rw [List.length_set];exact hst,?_,?_,?_⟩
 ·intro j x zs hx hz
  rcases split hx with ⟨hj,hx⟩ | ⟨rfl,rfl⟩
  ·rw [List.getElem?_set_ne (Ne.symm hj)] at hz
   exact Qa4 (Qaq (h.inn j x zs hx hz) hb) hsg (h.outer j x hx)
  ·rw [List.getElem?_set_self (by omega)] at hz
   cases hz
   exact Qa4 (QaW hB hh) hsg hsvg
 ·intro i j x x' hx hx' hij
  rcases split hx with ⟨hi,hy⟩ | ⟨rfl,rfl⟩
  ·rcases split hx' with ⟨hj,hy'⟩ | ⟨rfl,rfl⟩
   ·exact h.apart i j x x' hy hy' hij
   ·cases hv:x.ownBlock with
    | none=>exact .inl rfl
    | some b=>
     refine .inr fun e=>?_
     have h1:=far hy b hv
     have h2:=(hB.lt b e.symm).1
     omega
  ·rcases split hx' with ⟨hj,hy'⟩ | ⟨rfl,rfl⟩
   ·cases hv:x.ownBlock with
    | none=>exact .inl rfl
    | some b=>
     refine .inr fun e=>?_
     have h1:=far hy' b e.symm
     have h2:=(hB.lt b hv).1
     omega
   ·exact absurd rfl hij
 ·intro j x hx
  rcases split hx with ⟨hj,hy⟩ | ⟨rfl,rfl⟩
  ·exact h.outer j x hy
  ·exact hsvg
theorem GrpT.pushed {h0 g N k c:Nat}{p:Option Addr}{svs:List Value}{pre:List (List Int)}{W B:World}{o:Obj}{sv':Value}{xs:List Int}{y:Int}(h:GrpT h0 (.slice (some ⟨g,0,none⟩) N N) svs pre W)(hN:svs.length=N)(hk:svs[k]? = some (.slice p xs.length c))(hp:pre[k]? = some xs)
  (hB:B.ownsRow h0 3 1 sv' (xs.length+1) (xs.map (Value.int .i64)++[.int .i64 y])) (hg:(W.alloc o).grownBy B (Value.slice p xs.length c).ownBlock) (hat:sv'.ownBlock=(Value.slice p xs.length c).ownBlock∨sv'.ownBlock=some (W.alloc o).heap.size) :
  B.cell? ⟨g,k,none⟩=some (.slice p xs.length c)∧B.frozen? ⟨g,k,none⟩=false∧GrpT h0 (.slice (some ⟨g,0,none⟩) N N) (svs.set k sv') (pre.set k (xs++[y])) (B.setCell ⟨g,k,none⟩ sv'):=by
 subst hN
 have hne:(Value.slice (some ⟨g,0,none⟩) svs.length svs.length).ownBlock=none∨(Value.slice (some ⟨g,0,none⟩) svs.length svs.length).ownBlock≠(Value.slice p xs.length c).ownBlock:=by
  refine .inr fun e=>?_
  rcases h.outer k _ hk with h1 | h1
  ·rw [h1] at e;cases e
  ·exact h1 e.symm
 have h2:=Qa4 (World.ownsRow.alloc h.own o) hg hne
 refine⟨?_,h2.frozenAt k,h.push hk hp hB hg hat⟩
 have h3:=h2.cells (g:=g) rfl k _ hk
 rwa [Go.WideShapes.add_plain,Nat.zero_add] at h3
def edE (e : Eg) : Ed := ((e.1 : Int), (e.2.1 : Int), (e.2.2 : Int))
theorem Qgr {n : Int} {l : List Ed} (h : rgtW n l = 0) : ∃ (N : Nat) (L : List Eg), n = N ∧ N ≤ 1048576 ∧ l = L.map edE ∧ L.length ≤ 4194304 ∧ (∀ e ∈ L, e.1 < N ∧ e.2.1 < N) ∧ ∀ e ∈ L, e.2.2 ≤ 2147483647 := by
  unfold rgtW at h
  split at h
  · omega
  · split at h
    · omega
    · rename_i h0 h1
      have hall : ∀ (l : List Ed), lstW n l = 0 → ∃ L : List Eg, l = L.map edE ∧ (∀ e ∈ L, (e.1 : Int) < n ∧ (e.2.1 : Int) < n) ∧ ∀ e ∈ L, e.2.2 ≤ 2147483647 := by
        intro l
        induction l with
        | nil => intro _; exact ⟨[], rfl, by simp, by simp⟩
        | cons e l ih =>
          intro hl
          by_cases hf : fitW n e = 0
          · have hl' : lstW n l = 0 := by
              unfold lstW at hl
              rwa [if_pos hf] at hl
            obtain ⟨L, h1, h2, h3⟩ := ih hl'
            unfold fitW at hf
            split at hf
            · omega
            · rename_i hv
              split at hf
              · omega
              · split at hf
                · omega
                · have a : vtxB n e.1 = true := by
                    cases hx : vtxB n e.1
                    · exact absurd (.inl hx) hv
                    · rfl
                  have b : vtxB n e.2.1 = true := by
                    cases hx : vtxB n e.2.1
                    · exact absurd (.inr hx) hv
                    · rfl
                  rw [vtx_iff] at a b
                  refine ⟨(e.1.toNat, e.2.1.toNat, e.2.2.toNat) :: L, ?_, fun x hx => ?_, fun x hx => ?_⟩
                  · rw [List.map_cons, ← h1]
                    congr 1
                    unfold edE
                    simp only
                    rw [Int.toNat_of_nonneg a.1, Int.toNat_of_nonneg b.1, Int.toNat_of_nonneg (by omega)]
                  · rcases List.mem_cons.1 hx with rfl | hx
                    · simp only; omega
                    · exact h2 x hx
                  · rcases List.mem_cons.1 hx with rfl | hx
                    · simp only; omega
                    · exact h3 x hx
          · unfold lstW at hl
            rw [if_neg hf] at hl
            exact absurd hl hf
      obtain ⟨L, h2, h3, h4⟩ := hall l h
      refine ⟨n.toNat, L, by omega, by omega, h2, by have : l.length = L.length := by rw [h2]; simp
                                                     omega, fun e he => by have := h3 e he; omega, h4⟩
theorem QgC (e : Eg) (v : Nat) (w : World) : Calls Tryz.prog 150 #[.agg #[.int .i64 (e.1 : Int), .int .i64 (e.2.1 : Int), .int .i64 (e.2.2 : Int)], .int .i64 (v : Int)] w fun r w' => r = .returned (.int .i64 (oth e v : Int)) ∧ Grew w w' := by
  obtain ⟨x, y, z⟩ := e
  simp only
  by_cases h : x = v
  · have hE : oth (x, y, z) v = y := if_pos h
    rw [hE]
    subst h
    go_enter Tryz.func150, Tryz.ntmps150
    go_wp2
    go_ret
    exact ⟨rfl, (Grew.refl w).alloc _⟩
  · have hE : oth (x, y, z) v = x := if_neg h
    rw [hE]
    have h' : ¬ (x : Int) = (v : Int) := by omega
    go_enter Tryz.func150, Tryz.ntmps150
    go_wp2
    go_ret
    exact ⟨rfl, (Grew.refl w).alloc _⟩
end Go.Proofs.YtalflecmadacaaaGreat
