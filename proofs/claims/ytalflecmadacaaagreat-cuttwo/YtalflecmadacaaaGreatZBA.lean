import Derived.Laws.OwnMore
import Derived.OwnWalk
import Derived.WalkSmall
import Derived.Lib.SmallJoins
import Derived.Stop.Asserts
import Derived.Test.YtalflecmadacaaaGreatZAP
import Derived.Test.YtalflecmadacaaaGreatZAB
import Derived.Test.YtalflecmadacaaaGreatZAD
import Derived.Test.YtalflecmadacaaaGreatZAA
import Derived.Test.YtalflecmadacaaaGreatZAR
import Derived.Test.YtalflecmadacaaaGreatZAT
set_option maxRecDepth 100000
set_option maxHeartbeats 8000000
namespace Go.Proofs.YtalflecmadacaaaGreat
open Go Go.Proofs Go.RowKit
theorem QhM (a : Addr) (w : World) : (method 358 189 (.pointer (some a)) "Push").run Tryz.prog w = .ok (236, .pointer (some a)) w := by kernel_rfl
theorem Qju (a : Addr) (w : World) : (method 358 189 (.pointer (some a)) "Pop").run Tryz.prog w = .ok (235, .pointer (some a)) w := by kernel_rfl
theorem Qlu (a:Addr)(w:World)(v:Value)(h:w.cell? a=some v):(loadVar 155 a).run Tryz.prog w = .ok v w:=by
 go_simp
theorem Qpr (a:Addr)(w:World)(v:Value)(nm:String)(h:w.cell? a=some v):(receiverAt 189 (.val (.pointer (some a))) false (some nm)).run Tryz.prog w = .ok v w:=by
 have u:=Tryz.underlying189
 have hl:=Qlu a w v h
 have hn : (Builtin.ssaWrapNilChk_ #[189] 189 #[.pointer (some a), strVal "", strVal nm]).run Tryz.prog w = .ok (.pointer (some a)) w := by rfl
 simp [receiverAt,run_underlying u,Place.get,hn,Sem.run_bind,Result.andThen,asAddr,hl]
theorem Qes (a:Addr)(w:World)(v:Value)(nm:String)(f:Nat)(h:w.cell? a=some v)(hf:(Tryz.prog.info? 189).bind (fun i=>(i.methods.find? (·.name==nm)).map fun m=>(m.path.toList,m.func))=some ([],some (f,false))):
  (method 358 189 (.pointer (some a)) nm).run Tryz.prog w = .ok (f,v) w:=by
 cases hi:Tryz.prog.info? 189 with
 | none=>rw [hi] at hf;cases hf
 | some i=>
  rw [hi] at hf
  simp only [Option.bind_some] at hf
  cases hm:i.methods.find? (·.name==nm) with
  | none=>rw [hm] at hf;cases hf
  | some m=>
   rw [hm] at hf
   simp only [Option.map_some,Option.some.injEq,Prod.mk.injEq] at hf
   obtain⟨h1,h2⟩:=hf
   have h3:m.path.isEmpty=true:=by simpa using h1
   unfold method
   simp only [typeInfo,Sem.run_bind,run_program,Result.andThen_ok,hi]
   simp [hm,h1,h2,h3,follow,Result.andThen]
   rw [Qpr a w v _ h]
theorem Qe7 (a : Addr) (w : World) (v : Value) (h : w.cell? a = some v) : (method 358 189 (.pointer (some a)) "Len").run Tryz.prog w = .ok (129, v) w := Qes a w v "Len" _ h (by kernel_rfl)
theorem Qcp (a : Addr) (w : World) (v : Value) (h : w.cell? a = some v) : (method 358 189 (.pointer (some a)) "Less").run Tryz.prog w = .ok (233, v) w := Qes a w v "Less" _ h (by kernel_rfl)
theorem Qbj (a : Addr) (w : World) (v : Value) (h : w.cell? a = some v) : (method 358 189 (.pointer (some a)) "Swap").run Tryz.prog w = .ok (234, v) w := Qes a w v "Swap" _ h (by kernel_rfl)
abbrev StpT:=Nat × Nat
def encQ (x:StpT):List Value:=[.int .i64 (x.1:Int),.int .i64 (x.2:Int)]
def flatQ (L:List StpT):List Value:=L.flatMap encQ
theorem Qbe (x:StpT)(L:List StpT):flatQ (x :: L) = .int .i64 (x.1:Int) :: .int .i64 (x.2:Int) :: flatQ L:=rfl
theorem Qfk (L:List StpT)(d:StpT):flatQ (L++[d])=flatQ L++encQ d:=by simp [flatQ]
theorem QgT:∀ L:List StpT,(flatQ L).length=L.length*2
 | []=>rfl
 | x :: L=>by rw [Qbe];simp [QgT L];omega
theorem QiQ:∀ {L:List StpT} {j:Nat} {x:StpT},L[j]? = some x→(flatQ L)[j*2]? = some (.int .i64 (x.1:Int))∧(flatQ L)[j*2+1]? = some (.int .i64 (x.2:Int))
 | [],j,x,h=>by simp at h
 | y :: L,0,x,h=>by simp at h;subst h;rw [Qbe];simp
 | y :: L,j+1,x,h=>by
  rw [Qbe,show (j+1)*2=j*2+1+1 by omega]
  simpa using QiQ (L:=L) (j:=j) (by simpa using h)
theorem QgS:∀ (L:List StpT) (j:Nat) (x:StpT),((flatQ L).set (j*2) (.int .i64 (x.1:Int))).set (j*2+1) (.int .i64 (x.2:Int))=flatQ (L.set j x)
 | [],j,x=>by simp [flatQ]
 | y :: L,0,x=>by simp [Qbe]
 | y :: L,j+1,x=>by
  rw [Qbe,List.set_cons_succ,Qbe,← QgS L j x,show (j+1)*2=j*2+1+1 by omega]
  simp
abbrev QO (W:World) (base:Nat) (v:Value) (L:List StpT):Prop:=W.ownsRow base 161 2 v L.length (flatQ L)
theorem QO.cell {W:World}{base g cap:Nat}{L:List StpT}(h:QO W base (.slice (some ⟨g,0,none⟩) L.length cap) L){j:Nat}(hj:j<L.length):W.cell? ⟨g,j*2,none⟩=some (.int .i64 (L[j].1:Int))∧W.cell? ⟨g,j*2+1,none⟩=some (.int .i64 (L[j].2:Int)):=by
 obtain⟨h1,h2⟩:=QiQ (YB hj)
 exact⟨(World.ownsRow.cellAt h (j*2) (by omega)).trans h1,(World.ownsRow.cellAt h (j*2+1) (by omega)).trans h2⟩
theorem QO.put {W:World}{base g cap:Nat}{L:List StpT}(h:QO W base (.slice (some ⟨g,0,none⟩) L.length cap) L)(j:Nat)(x:StpT):
  QO ((W.setCell ⟨g,j*2,none⟩ (.int .i64 (x.1:Int))).setCell ⟨g,j*2+1,none⟩ (.int .i64 (x.2:Int))) base (.slice (some ⟨g,0,none⟩) L.length cap) (L.set j x)∧W.grownBy ((W.setCell ⟨g,j*2,none⟩ (.int .i64 (x.1:Int))).setCell ⟨g,j*2+1,none⟩ (.int .i64 (x.2:Int))) (some g):=by
 obtain⟨a1,a2⟩:=World.ownsRow.stored h (j*2) (.int .i64 (x.1:Int))
 obtain⟨b1,b2⟩:=World.ownsRow.stored a1 (j*2+1) (.int .i64 (x.2:Int))
 refine⟨?_,⟨b2.os.trans a2.os,b2.tape.trans a2.tape,b2.output.trans a2.output,Nat.le_trans a2.size b2.size,fun k hk hne=>(b2.block k (Nat.lt_of_lt_of_le hk a2.size) hne).trans (a2.block k hk hne)⟩⟩
 unfold QO
 rw [List.length_set,← QgS]
 exact b1
theorem Qbk {a b c:World}{r:Option Nat}(h:a.grownBy b r)(h':b.grownBy c r):a.grownBy c r:=
 ⟨h'.os.trans h.os,h'.tape.trans h.tape,h'.output.trans h.output,Nat.le_trans h.size h'.size,fun k hk hne=>(h'.block k (Nat.lt_of_lt_of_le hk h.size) hne).trans (h.block k hk hne)⟩
theorem Qdt (a:World)(r:Option Nat):a.grownBy a r:=⟨rfl,rfl,rfl,YA,fun _ _ _=>rfl⟩
theorem QaL {a b:World}{r:Option Nat}(h:a.grownBy b r)(k:Nat):a.grownBy (b.drewN k) r:=⟨h.os,h.tape,h.output,h.size,h.block⟩
theorem QdR (p:Option Addr)(n c:Nat)(w:World):Calls Tryz.prog 129 #[.slice p n c] w fun e w'=>e = .returned (.int .i64 (n:Int))∧w'=w:=by
 go_enter Tryz.func129,Tryz.ntmps129
 go_wp2
 go_ret
 exact⟨rfl,rfl⟩
theorem Qgx (base g cap:Nat)(L:List StpT)(i j:Nat)(w:World)(h:QO w base (.slice (some ⟨g,0,none⟩) L.length cap) L)(hi:i<L.length)(hj:j<L.length):
  Calls Tryz.prog 233 #[.slice (some ⟨g,0,none⟩) L.length cap,.int .i64 (i:Int),.int .i64 (j:Int)] w fun e w'=>(∃ b,e = .returned (.bool b))∧∃ q,w'=w.drewN q:=by
 obtain⟨a0,a1⟩:=h.cell hi
 obtain⟨b0,b1⟩:=h.cell hj
 have hi':(i:Int)<(L.length:Int):=by omega
 have hj':(j:Int)<(L.length:Int):=by omega
 clear h
 go_enter Tryz.func233,Tryz.ntmps233
 go_wp2
 go_quiet (fail)
 go_wp2
 go_ret
 exact⟨⟨_,rfl⟩,_,rfl⟩
theorem QkN (base g cap:Nat)(L:List StpT)(i j:Nat)(w:World)(h:QO w base (.slice (some ⟨g,0,none⟩) L.length cap) L)(hi:i<L.length)(hj:j<L.length):
  Calls Tryz.prog 234 #[.slice (some ⟨g,0,none⟩) L.length cap,.int .i64 (i:Int),.int .i64 (j:Int)] w fun e w'=>e = .returned (.tuple #[])∧w.grownBy w' (some g)∧QO w' base (.slice (some ⟨g,0,none⟩) L.length cap) ((L.set i L[j]).set j L[i]):=by
 obtain⟨a0,a1⟩:=h.cell hi
 obtain⟨b0,b1⟩:=h.cell hj
 have hi':(i:Int)<(L.length:Int):=by omega
 have hj':(j:Int)<(L.length:Int):=by omega
 have hfz:=fun k=>World.ownsRow.frozenAt h k
 have hmix:=mixed
 have HQ:Hid _:=h
 clear h
 obtain⟨x0,X0⟩:∃ x:Int,Hid ((L[i].1:Int)=x):=⟨(L[i].1:Int),show Hid _ from rfl⟩
 obtain⟨x1,X1⟩:∃ x:Int,Hid ((L[i].2:Int)=x):=⟨(L[i].2:Int),show Hid _ from rfl⟩
 obtain⟨y0,Y0⟩:∃ x:Int,Hid ((L[j].1:Int)=x):=⟨(L[j].1:Int),show Hid _ from rfl⟩
 obtain⟨y1,Y1⟩:∃ x:Int,Hid ((L[j].2:Int)=x):=⟨(L[j].2:Int),show Hid _ from rfl⟩
 rw [X0.out] at a0
 rw [X1.out] at a1
 rw [Y0.out] at b0
 rw [Y1.out] at b1
 by_cases hij:i=j
 ·subst hij
  go_enter Tryz.func234,Tryz.ntmps234
  go_wp2
  go_big_region_o
  go_wp2
  have h1:=QO.put HQ.out i L[i]
  have h2:=QO.put (L:=L.set i L[i]) (by rw [List.length_set];exact h1.1) i L[i]
  rw [List.length_set,X0.out,X1.out] at h2
  rw [X0.out,X1.out] at h1
  exact bodyPost_end (results_none rfl _ _ _) rfl ⟨rfl,QaL (Qbk h1.2 h2.2) 1,h2.1⟩
 ·have n0:¬ j*2=i*2:=by omega
  have n1:¬ j*2=i*2+1:=by omega
  have n2:¬ j*2+1=i*2:=by omega
  have n3:¬ j*2+1=i*2+1:=by omega
  have m0:¬ i*2=j*2:=by omega
  have m1:¬ i*2=j*2+1:=by omega
  have m2:¬ i*2+1=j*2:=by omega
  have m3:¬ i*2+1=j*2+1:=by omega
  go_enter Tryz.func234,Tryz.ntmps234
  go_wp2
  go_big_region_o
  go_wp2
  have h1:=QO.put HQ.out i L[j]
  have h2:=QO.put (L:=L.set i L[j]) (by rw [List.length_set];exact h1.1) j L[i]
  rw [List.length_set,X0.out,X1.out] at h2
  rw [Y0.out,Y1.out] at h1 h2
  exact bodyPost_end (results_none rfl _ _ _) rfl ⟨rfl,QaL (Qbk h1.2 h2.2) 1,h2.1⟩
theorem Qkl {α:Type}{L:List α}{i j:Nat}(hi:i<L.length)(hj:j<L.length):((L.set i L[j]).set j L[i]).Perm L:=List.set_set_perm hi hj
structure QI (W:World)(sb base g cap:Nat)(L:List StpT):Prop where
 cell:W.cell? ⟨sb,5,none⟩=some (.slice (some ⟨g,0,none⟩) L.length cap)
 own:QO W base (.slice (some ⟨g,0,none⟩) L.length cap) L
 ne:sb≠g
theorem QI.grown {W W':World}{sb base g cap:Nat}{L L':List StpT}(h:QI W sb base g cap L)(hg:W.grownBy W' (some g))(hl:L'.length=L.length)(ho:QO W' base (.slice (some ⟨g,0,none⟩) L.length cap) L'):QI W' sb base g cap L':=by
 refine⟨?_,?_,h.ne⟩
 ·rw [hl];exact hg.cell h.cell (fun e=>h.ne (Option.some.inj e))
 ·rw [hl];exact ho
theorem QfB (base g cap:Nat)(L:List StpT)(i j m:Nat)(w:World)(hm:L.length=m)(h:QO w base (.slice (some ⟨g,0,none⟩) m cap) L)(hi:i<m)(hj:j<m):
  Calls Tryz.prog 234 #[.slice (some ⟨g,0,none⟩) m cap,.int .i64 (i:Int),.int .i64 (j:Int)] w fun e w'=>e = .returned (.tuple #[])∧∃ L',L'.length=m∧L'.Perm L∧(∀ k,k≠i→k≠j→L'[k]? = L[k]?)∧(L'[j]? = L[i]?)∧w.grownBy w' (some g)∧QO w' base (.slice (some ⟨g,0,none⟩) m cap) L':=by
 subst hm
 refine (QkN base g cap L i j w h hi hj).mono ?_
 rintro e w' ⟨rfl,h1,h2⟩
 refine⟨rfl,_,by simp,Qkl hi hj,fun k k1 k2=>?_,?_,h1,h2⟩
 ·rw [List.getElem?_set_ne (Ne.symm k2),List.getElem?_set_ne (Ne.symm k1)]
 ·rw [List.getElem?_set_self (by simpa using hj),YB hi]
def RetB (e:Ending):Prop:=∃ b,e = .returned (.bool b)
def SameQ (sb base g cap n:Nat)(L:List StpT)(w w':World):Prop:=∃ L',L'.Perm L∧L'[n]? = L[n]?∧w.grownBy w' (some g)∧QI w' sb base g cap L'
theorem Qpo (sb base g cap:Nat)(L:List StpT)(j:Nat)(w:World)(h:QI w sb base g cap L)(hj:j<L.length)(hm:L.length≤8796093022208):
  Calls Tryz.prog 170 #[.iface 189 (.pointer (some ⟨sb,5,none⟩)),.int .i64 (j:Int)] w fun e w'=>e = .returned (.tuple #[])∧∃ L',L'.Perm L∧w.grownBy w' (some g)∧QI w' sb base g cap L':=by
 go_enter Tryz.func170,Tryz.ntmps170
 go_wp2
 go_loopw [1] (fun iv wr=>∃ (i:Nat) (Lr:List StpT),iv = .int .i64 i∧i<L.length∧Hid (Lr.length=L.length)∧Lr.Perm L∧w.grownBy wr (some g)∧QI wr sb base g cap Lr) (fun iv _=>(intOf iv).toNat)
 case atStart=>exact⟨j,L,rfl,hj,rfl,List.Perm.refl _,Qdt _ _,h⟩
 case round=>
  obtain⟨i,Lr,rfl,hi,HL,hp,hg,hq⟩:=hrel
  have hc:=hq.cell
  rw [HL.out] at hc
  have m1:=Qcp ⟨sb,5,none⟩ wr _ hc
  by_cases h0:i=0
  ·subst h0
   go_wp2
   exact bodyPost_end (results_none rfl _ _ _) rfl ⟨rfl,Lr,hp,hg,hq⟩
  ·have hi1:(1:Int)≤(i:Int):=by omega
   have hi2:(i:Int)≤8796093022208:=by omega
   obtain⟨k,hk⟩:∃ k:Nat,((i:Int)-1) / 2=(k:Int):=⟨(i-1) / 2,by omega⟩
   have hki:k<i:=by omega
   have hne:¬ ((i:Int)-1) / 2=(i:Int):=by omega
   have hl:Calls Tryz.prog 233 #[.slice (some ⟨g,0,none⟩) L.length cap,.int .i64 (i:Int),.int .i64 (((i:Int)-1) / 2)] wr fun e w'=>(∃ b,e = .returned (.bool b))∧∃ q,w'=wr.drewN q:=by
    have:=Qgx base g cap Lr i k wr hq.own (by rw [HL.out];exact hi) (by rw [HL.out];omega)
    rw [HL.out] at this
    rw [hk];exact this
   have HK:Hid _:=hk
   clear hk
   go_wp2_with fail
   refine hl.mono ?_
   rintro e w1 ⟨⟨b,rfl⟩,q,rfl⟩
   clear hl m1
   have hq1:QI (wr.drewN q) sb base g cap Lr:=⟨hq.cell,hq.own,hq.ne⟩
   have hg1:=QaL hg q
   have hc1:(wr.drewN q).cell? ⟨sb,5,none⟩=some (.slice (some ⟨g,0,none⟩) L.length cap):=hc
   generalize wr.drewN q=w1 at hq1 hg1 hc1 ⊢
   clear hc hq hg
   cases b with
   | false=>
    go_wp2
    exact bodyPost_end (results_none rfl _ _ _) rfl ⟨rfl,Lr,hp,hg1,hq1⟩
   | true=>
    have m2:=Qbj ⟨sb,5,none⟩ w1 _ hc1
    have hs:Calls Tryz.prog 234 #[.slice (some ⟨g,0,none⟩) L.length cap,.int .i64 (((i:Int)-1) / 2),.int .i64 (i:Int)] w1 fun e w'=>e = .returned (.tuple #[])∧∃ L',Hid (L'.length=L.length)∧L'.Perm L∧w1.grownBy w' (some g)∧QI w' sb base g cap L':=by
     have h0:=hq1.own
     rw [HL.out] at h0
     rw [HK.out]
     refine (QfB base g cap Lr k i L.length w1 HL.out h0 (by omega) hi).mono ?_
     rintro e w' ⟨rfl,L',k1,k2,_,_,h2,h3⟩
     exact⟨rfl,L',k1,k2.trans hp,h2,hq1.grown h2 (k1.trans HL.out.symm) (by rw [HL.out];exact h3)⟩
    go_wp2_with fail
    refine hs.mono ?_
    rintro e w2 ⟨rfl,L2,HL2,hp2,hg2,hq2⟩
    clear hs m2 hc1
    go_wp2
    exact⟨⟨k,L2,by rw [HK.out],by omega,HL2,hp2,Qbk hg1 hg2,hq2⟩,by have:=HK.out;simp [intOf];omega⟩
theorem QnF (sb base g cap:Nat)(L:List StpT)(n:Nat)(w:World)(h:QI w sb base g cap L)(hn:n<L.length)(hm:L.length≤8796093022208):
  Calls Tryz.prog 171 #[.iface 189 (.pointer (some ⟨sb,5,none⟩)),.int .i64 0,.int .i64 (n:Int)] w fun e w'=>RetB e∧SameQ sb base g cap n L w w':=by
 go_enter Tryz.func171,Tryz.ntmps171
 go_wp2
 go_loopw [7] (fun iv wr=>∃ (i:Nat) (Lr:List StpT),iv = .int .i64 i∧i<L.length∧Hid (Lr.length=L.length)∧Lr.Perm L∧Hid (Lr[n]? = L[n]?)∧w.grownBy wr (some g)∧QI wr sb base g cap Lr) (fun iv _=>L.length-(intOf iv).toNat)
 case atStart=>exact⟨0,L,rfl,by omega,rfl,List.Perm.refl _,rfl,Qdt _ _,h⟩
 case round=>
  obtain⟨i,Lr,rfl,hi,HL,hp,HN,hg,hq⟩:=hrel
  have hi2:(i:Int)≤8796093022208:=by omega
  have hc:=hq.cell
  rw [HL.out] at hc
  have hless:∀ (W:World) (x y:Nat),QI W sb base g cap Lr→x<L.length→y<L.length→Calls Tryz.prog 233 #[.slice (some ⟨g,0,none⟩) L.length cap,.int .i64 (x:Int),.int .i64 (y:Int)] W fun e w'=>(∃ b,e = .returned (.bool b))∧∃ q,w'=W.drewN q:=by
   intro W x y hW hx hy
   have:=Qgx base g cap Lr x y W hW.own (by rw [HL.out];exact hx) (by rw [HL.out];exact hy)
   rwa [HL.out] at this
  have hend:∀ W:World,w.grownBy W (some g)→QI W sb base g cap Lr→SameQ sb base g cap n L w W:=fun W hW hQ=>⟨Lr,hp,HN.out,hW,hQ⟩
  by_cases h1:2*i+1<n
  ·have h1z:¬ (n:Int)≤2*(i:Int)+1:=by omega
   have h1y:¬ 2*(i:Int)+1<0:=by omega
   have hrest:∀ (W:World) (k:Nat),QI W sb base g cap Lr→i<k→k<n→w.grownBy W (some g) →
     (Calls Tryz.prog 233 #[.slice (some ⟨g,0,none⟩) L.length cap,.int .i64 (k:Int),.int .i64 (i:Int)] W fun e w'=>(∃ b,e = .returned (.bool b))∧∃ q,w'=W.drewN q) ∧
     ∀ q,Calls Tryz.prog 234 #[.slice (some ⟨g,0,none⟩) L.length cap,.int .i64 (i:Int),.int .i64 (k:Int)] (W.drewN q) fun e w'=>e = .returned (.tuple #[])∧∃ L',Hid (L'.length=L.length)∧L'.Perm L∧Hid (L'[n]? = L[n]?)∧w.grownBy w' (some g)∧QI w' sb base g cap L':=by
    intro W k hW hik hkn hgW
    refine⟨hless W k i hW (by omega) (by omega),fun q=>?_⟩
    have hq1:QI (W.drewN q) sb base g cap Lr:=⟨hW.cell,hW.own,hW.ne⟩
    have h0:=hq1.own
    rw [HL.out] at h0
    refine (QfB base g cap Lr i k L.length (W.drewN q) HL.out h0 (by omega) (by omega)).mono ?_
    rintro e w' ⟨rfl,L',k1,k2,k3,_,h2,h3⟩
    exact⟨rfl,L',k1,k2.trans hp,(k3 n (by omega) (by omega)).trans HN.out,Qbk (QaL hgW q) h2,hq1.grown h2 (k1.trans HL.out.symm) (by rw [HL.out];exact h3)⟩
   have m1:=Qcp ⟨sb,5,none⟩ wr _ hc
   by_cases h2:2*i+2<n
   ·have h2z:2*(i:Int)+1+1<(n:Int):=by omega
    have hl:Calls Tryz.prog 233 #[.slice (some ⟨g,0,none⟩) L.length cap,.int .i64 (2*(i:Int)+1+1),.int .i64 (2*(i:Int)+1)] wr fun e w'=>(∃ b,e = .returned (.bool b))∧∃ q,w'=wr.drewN q:=by
     have:=hless wr (2*i+2) (2*i+1) hq (by omega) (by omega)
     rwa [show ((2*i+2:Nat):Int)=2*(i:Int)+1+1 by omega,show ((2*i+1:Nat):Int)=2*(i:Int)+1 by omega] at this
    have HR:Hid _:=hrest
    clear hless hrest
    go_wp2_with fail
    refine hl.mono ?_
    rintro e w1 ⟨⟨b,rfl⟩,q,rfl⟩
    clear hl m1
    have hq1:QI (wr.drewN q) sb base g cap Lr:=⟨hq.cell,hq.own,hq.ne⟩
    have hg1:=QaL hg q
    have hc1:(wr.drewN q).cell? ⟨sb,5,none⟩=some (.slice (some ⟨g,0,none⟩) L.length cap):=hc
    generalize wr.drewN q=w1 at hq1 hg1 hc1 ⊢
    clear hc hq hg
    have m1:=Qcp ⟨sb,5,none⟩ w1 _ hc1
    cases b with
    | false=>
     obtain⟨r1,r2⟩:=HR.out w1 (2*i+1) hq1 (by omega) (by omega) hg1
     rw [show ((2*i+1:Nat):Int)=2*(i:Int)+1 by omega] at r1 r2
     go_wp2_with fail
     refine r1.mono ?_
     rintro e w2 ⟨⟨b,rfl⟩,q2,rfl⟩
     clear r1 m1
     replace r2:=r2 q2
     have hq2:QI (w1.drewN q2) sb base g cap Lr:=⟨hq1.cell,hq1.own,hq1.ne⟩
     have hg2:=QaL hg1 q2
     have hc2:(w1.drewN q2).cell? ⟨sb,5,none⟩=some (.slice (some ⟨g,0,none⟩) L.length cap):=hc1
     generalize w1.drewN q2=w2 at hq2 hg2 hc2 r2 ⊢
     clear hc1 hq1 hg1
     cases b with
     | false=>
      go_wp2
      go_ret
      exact⟨⟨_,rfl⟩,hend _ hg2 hq2⟩
     | true=>
      have m2:=Qbj ⟨sb,5,none⟩ w2 _ hc2
      go_wp2_with fail
      refine r2.mono ?_
      rintro e w3 ⟨rfl,L3,HL3,hp3,HN3,hg3,hq3⟩
      clear r2 m2 hc2
      go_wp2
      exact⟨⟨2*i+1,L3,by go_num,by omega,HL3,hp3,HN3,hg3,hq3⟩,by simp [intOf];omega⟩
    | true=>
     obtain⟨r1,r2⟩:=HR.out w1 (2*i+2) hq1 (by omega) (by omega) hg1
     rw [show ((2*i+2:Nat):Int)=2*(i:Int)+1+1 by omega] at r1 r2
     go_wp2_with fail
     refine r1.mono ?_
     rintro e w2 ⟨⟨b,rfl⟩,q2,rfl⟩
     clear r1 m1
     replace r2:=r2 q2
     have hq2:QI (w1.drewN q2) sb base g cap Lr:=⟨hq1.cell,hq1.own,hq1.ne⟩
     have hg2:=QaL hg1 q2
     have hc2:(w1.drewN q2).cell? ⟨sb,5,none⟩=some (.slice (some ⟨g,0,none⟩) L.length cap):=hc1
     generalize w1.drewN q2=w2 at hq2 hg2 hc2 r2 ⊢
     clear hc1 hq1 hg1
     cases b with
     | false=>
      go_wp2
      go_ret
      exact⟨⟨_,rfl⟩,hend _ hg2 hq2⟩
     | true=>
      have m2:=Qbj ⟨sb,5,none⟩ w2 _ hc2
      go_wp2_with fail
      refine r2.mono ?_
      rintro e w3 ⟨rfl,L3,HL3,hp3,HN3,hg3,hq3⟩
      clear r2 m2 hc2
      go_wp2
      exact⟨⟨2*i+2,L3,by go_num,by omega,HL3,hp3,HN3,hg3,hq3⟩,by simp [intOf];omega⟩
   ·have h2z:¬ 2*(i:Int)+1+1<(n:Int):=by omega
    obtain⟨r1,r2⟩:=hrest wr (2*i+1) hq (by omega) (by omega) hg
    rw [show ((2*i+1:Nat):Int)=2*(i:Int)+1 by omega] at r1 r2
    clear hless hrest
    go_wp2_with fail
    refine r1.mono ?_
    rintro e w2 ⟨⟨b,rfl⟩,q2,rfl⟩
    clear r1 m1
    replace r2:=r2 q2
    have hq2:QI (wr.drewN q2) sb base g cap Lr:=⟨hq.cell,hq.own,hq.ne⟩
    have hg2:=QaL hg q2
    have hc2:(wr.drewN q2).cell? ⟨sb,5,none⟩=some (.slice (some ⟨g,0,none⟩) L.length cap):=hc
    generalize wr.drewN q2=w2 at hq2 hg2 hc2 r2 ⊢
    clear hc hq hg
    cases b with
    | false=>
     go_wp2
     go_ret
     exact⟨⟨_,rfl⟩,hend _ hg2 hq2⟩
    | true=>
     have m2:=Qbj ⟨sb,5,none⟩ w2 _ hc2
     go_wp2_with fail
     refine r2.mono ?_
     rintro e w3 ⟨rfl,L3,HL3,hp3,HN3,hg3,hq3⟩
     clear r2 m2 hc2
     go_wp2
     exact⟨⟨2*i+1,L3,by go_num,by omega,HL3,hp3,HN3,hg3,hq3⟩,by simp [intOf];omega⟩
  ·have h1z:(n:Int)≤2*(i:Int)+1:=by omega
   go_wp2
   go_ret
   exact⟨⟨_,rfl⟩,hend _ hg hq⟩
theorem infoQ:(Tryz.prog.info? 161).map (fun i=>(i.zero,i.size,i.bytes))=some (some (.agg #[.int .i64 0,.int .i64 0]),2,16):=by kernel_rfl
theorem QhW {e:TypeId}{z:Value}{k b:Nat}(h:(Tryz.prog.info? e).map (fun i=>(i.zero,i.size,i.bytes))=some (some z,k,b)):∃ i,Tryz.prog.info? e=some i∧i.zero=some z∧i.size=k∧i.bytes=b:=by
 cases hi:Tryz.prog.info? e with
 | none=>rw [hi] at h;cases h
 | some i=>
  rw [hi] at h
  simp only [Option.map_some,Option.some.injEq,Prod.mk.injEq] at h
  exact⟨i,rfl,h.1,h.2.1,h.2.2⟩
theorem newsQ {w:World}{t:TypeId}(d:StpT):∀ (i:Nat) (u:Value),(encQ d)[i]? = some u→(w.alloc (.cells #[.int .i64 (d.1:Int),.int .i64 (d.2:Int)] t)).cell? ((⟨w.heap.size,0,none⟩:Addr).add i)=some u:=by
 intro i u h
 match i,h with
 | 0,h=>
  have:u = .int .i64 (d.1:Int):=by simpa [encQ] using h.symm
  subst this
  simp [Addr.add]
 | 1,h=>
  have:u = .int .i64 (d.2:Int):=by simpa [encQ] using h.symm
  subst this
  simp [Addr.add]
 | i+2,h=>simp [encQ] at h
theorem oneQ (d:StpT):∀ u∈encQ d,u.oneCell'=true:=by
 intro u hu
 simp only [encQ,List.mem_cons,List.not_mem_nil,or_false] at hu
 rcases hu with rfl | rfl <;> rfl
theorem Qcm {W:World}{base:Nat}{e:TypeId}{size:Nat}{v:Value}{n:Nat}{xs:List Value}(h:W.ownsRow base e size v n xs):∃ p c,v = .slice p n c:=by
 rcases h.2 with ⟨rfl,rfl⟩ | ⟨g,cap,cur,rfl,_⟩ <;> exact⟨_,_,rfl⟩
abbrev SB (W:World) (sb:Nat) (X:List Value) (qv:Value):Prop:=Blk 157 W sb (X++[qv])
def QM (sb:Nat)(qv:Value)(w w':World):Prop:=
 w'.os=w.os∧w'.tape=w.tape∧w'.output=w.output∧w.heap.size≤w'.heap.size∧∀ k,k<w.heap.size→k≠sb→some k≠qv.ownBlock→w'.heap[k]? = w.heap[k]?
def NewQ (w:World)(qv qv':Value):Prop:=qv'.ownBlock=qv.ownBlock∨∃ k,qv'.ownBlock=some k∧w.heap.size≤k
theorem QeQ (a b:Value)(w:World):(Instr.typeAssert (.iface 161 (.agg #[a,b])) 20 161 false).run Tryz.prog w = .ok (.agg #[a,b]) w:=by kernel_rfl
theorem QkO (sb base:Nat)(X:List Value)(hX:X.length=5)(qv:Value)(L:List StpT)(x:StpT)(w:World)(hS:SB w sb X qv)(hQ:QO w base qv L)(hne:some sb≠qv.ownBlock)(hm:L.length≤8796093022207)(hbase:base≤w.heap.size):
  Calls Tryz.prog 236 #[.pointer (some ⟨sb,5,none⟩),.iface 161 (.agg #[.int .i64 (x.1:Int),.int .i64 (x.2:Int)])] w fun e w'=>e = .returned (.tuple #[])∧∃ qv',SB w' sb X qv'∧QO w' base qv' (L++[x])∧NewQ w qv qv'∧QM sb qv w w':=by
 have hc:w.cell? ⟨sb,5,none⟩=some qv:=hS.cell (by rw [List.getElem?_append_right (by omega),hX];rfl)
 obtain⟨i0,hi,hz0,hz1,hz2⟩:=QhW infoQ
 obtain⟨pq,cq,rfl⟩:=Qcm hQ
 have hmix:=mixed
 have hta:=fun w=>QeQ (.int .i64 (x.1:Int)) (.int .i64 (x.2:Int)) w
 go_enter Tryz.func236,Tryz.ntmps236
 go_wp2_with fail
 refine Qai (S:=(fun w':World=>w'.cell? ⟨sb,5,none⟩=some (.slice pq L.length cq))) (by kernel_rfl) ?_ (fun hHeld=>?_)
 ·(try dsimp only);go_keep
 refine tL 0 ?_
 try simp only [YS]
 refine tL 1 ?_
 refine tL 2 ?_
 refine tL 3 ?_
 refine tL 4 ?_
 refine tL 5 ?_
 have hgd:w.grownBy w.drew none:=QaL (Qdt w none) 1
 have hQd:QO w.drew base (.slice pq L.length cq) L:=hQ
 have hSd:SB w.drew sb X (.slice pq L.length cq):=hS
 have hbd:base≤w.drew.heap.size:=hbase
 generalize w.drew=w1 at hgd hQd hSd hbd hHeld ⊢
 have hgA:w1.grownBy (w1.alloc (.cells #[.int .i64 (x.1:Int),.int .i64 (x.2:Int)] 161)) none:=World.grownBy_alloc _ _ _
 have hQA:=World.ownsRow.alloc hQd (.cells #[.int .i64 (x.1:Int),.int .i64 (x.2:Int)] 161)
 have hSA:SB (w1.alloc (.cells #[.int .i64 (x.1:Int),.int .i64 (x.2:Int)] 161)) sb X (.slice pq L.length cq):=(hgA.block sb hSd.lt (by simp)).trans hSd
 have hcA:(w1.alloc (.cells #[.int .i64 (x.1:Int),.int .i64 (x.2:Int)] 161)).cell? ⟨sb,5,none⟩=some (.slice pq L.length cq):=hSA.cell (by rw [List.getElem?_append_right (by omega),hX];rfl)
 have hnw:Src (w1.alloc (.cells #[.int .i64 (x.1:Int),.int .i64 (x.2:Int)] 161)) (.slice (some ⟨w1.heap.size,0,none⟩) 1 1) 1 2 (encQ x):=.inr ⟨⟨w1.heap.size,0,none⟩,1,rfl,rfl,newsQ x,oneQ x⟩
 have hmx:L.length+1≤maxLen:=by unfold maxLen;omega
 have hby:(L.length+1)*16≤140737488355328:=by omega
 have hsA:base≤(w1.alloc (.cells #[.int .i64 (x.1:Int),.int .i64 (x.2:Int)] 161)).heap.size:=Nat.le_trans hbd hgA.size
 refine Qac (rs:=[6]) (by kernel_rfl) (by simp) ?_
 refine AllReadyL.cons rfl (fun K hK=>?_) AllReadyL.nil
 go_simp
 refine hK.out _ _ hcA (fun hHeld12=>?_)
 clear hK K
 try simp only [Act.put,YS,YT,YU]
 refine Qac (rs:=[7]) (by kernel_rfl) (by simp) ?_
 refine AllReadyL.cons rfl (fun K hK=>?_) AllReadyL.nil
 refine Qap rfl _ _ 155 rfl base 161 i0 (.agg #[.int .i64 0,.int .i64 0]) 2 16 Tryz.underlying155 hi hz0 hz1 hz2 rfl (by decide) (.slice pq L.length cq) L.length (flatQ L) rfl hQA (.slice (some ⟨w1.heap.size,0,none⟩) 1 1) 1 (encQ x) rfl hnw hmx hby hsA ?_
 intro v8 w12 ho8 hg8 hat8
 obtain⟨a8,k8,rfl⟩:=Qcm ho8
 have hS12:SB w12 sb X (.slice pq L.length cq):=(hg8.block sb hSA.lt hne).trans hSA
 have c12:w12.cell? ⟨sb,5,none⟩=some (.slice pq L.length cq):=hS12.cell (by rw [List.getElem?_append_right (by omega),hX];rfl)
 have f12:w12.frozen? ⟨sb,5,none⟩=false:=hS12.frozen 5
 refine hK.out _ _ c12 (fun hHeld13=>?_)
 clear hK K
 try simp only [Act.put,YS]
 refine Qac (rs:=[8]) (by kernel_rfl) (by simp) ?_
 refine AllReadyL.cons rfl (fun K hK=>?_) AllReadyL.nil
 go_simp
 refine hK.out _ _ ?_ (fun hHeld=>?_)
 ·(try dsimp only);first | (go_keep;done) | ((repeat' apply And.intro) <;> go_simp)
 clear hK K
 try simp only [Act.put,YS,YT,YU]
 refine Qac (rs:=[9]) (by kernel_rfl) (by simp) ?_
 refine AllReadyL.last rfl (by kernel_rfl) (fun K hK=>?_)
 go_simp
 refine hK.out _ _ ?_
 clear hK K
 try simp only [Act.put,YS,YT,YU]
 refine Qak (by kernel_rfl) ?_ _
 have hob:(Value.slice a8 (L.length+1) k8).ownBlock=(Value.slice pq L.length cq).ownBlock∨∃ k,(Value.slice a8 (L.length+1) k8).ownBlock=some k∧w1.heap.size≤k:=by
  rcases hat8 with h1 | h1
  ·exact .inl h1
  ·exact .inr ⟨_,h1,by simp⟩
 have hne8:(Value.slice a8 (L.length+1) k8).ownBlock≠some sb:=by
  rcases hob with h1 | ⟨k,h1,h2⟩
  ·rw [h1];exact Ne.symm hne
  ·rw [h1];intro e;have:=Option.some.inj e;have:=hSd.lt;omega
 have hS':SB (w12.setCell ⟨sb,5,none⟩ (.slice a8 (L.length+1) k8)) sb X (.slice a8 (L.length+1) k8):=by
  have h1:=hS12.set 5 (.slice a8 (L.length+1) k8)
  have h2:(X++[Value.slice pq L.length cq]).set 5 (.slice a8 (L.length+1) k8)=X++[.slice a8 (L.length+1) k8]:=by
   rw [List.set_append_right _ _ (by omega),hX];rfl
  rwa [h2] at h1
 have hQ':QO (w12.setCell ⟨sb,5,none⟩ (.slice a8 (L.length+1) k8)) base (.slice a8 (L.length+1) k8) (L++[x]):=by
  have h1:=ownsRow_setCell_other ho8 (a:=⟨sb,5,none⟩) hne8 (.slice a8 (L.length+1) k8)
  unfold QO
  rw [Qfk,YI]
  exact h1
 have hM:QM sb (.slice pq L.length cq) w (w12.setCell ⟨sb,5,none⟩ (.slice a8 (L.length+1) k8)):=by
  refine⟨?_,?_,?_,?_,fun k hk h1 h2=>?_⟩
  ·exact (hg8.os.trans hgA.os).trans hgd.os
  ·exact (hg8.tape.trans hgA.tape).trans hgd.tape
  ·exact (hg8.output.trans hgA.output).trans hgd.output
  ·have:=hgd.size;have:=hgA.size;have:=hg8.size;simp only [World.size_setCell];omega
  ·rw [heap_setCell_other w12 ⟨sb,5,none⟩ k _ h1]
   have k1:k<w1.heap.size:=Nat.lt_of_lt_of_le hk hgd.size
   exact ((hg8.block k (Nat.lt_of_lt_of_le k1 hgA.size) h2).trans (hgA.block k k1 (by simp))).trans (hgd.block k hk (by simp))
 go_wp2
 refine bodyPost_end (results_none rfl _ _ _) rfl ⟨rfl,_,hS',hQ',?_,hM⟩
 rcases hob with h1 | ⟨k,h1,h2⟩
 ·exact .inl h1
 ·exact .inr ⟨k,h1,Nat.le_trans hgd.size h2⟩
theorem QM.trans {sb:Nat}{qv qv':Value}{a b c:World}(h:QM sb qv a b)(hn:NewQ a qv qv')(h':QM sb qv' b c):QM sb qv a c:=by
 refine⟨h'.1.trans h.1,h'.2.1.trans h.2.1,h'.2.2.1.trans h.2.2.1,Nat.le_trans h.2.2.2.1 h'.2.2.2.1,fun k hk h1 h2=>?_⟩
 refine (h'.2.2.2.2 k (Nat.lt_of_lt_of_le hk h.2.2.2.1) h1 ?_).trans (h.2.2.2.2 k hk h1 h2)
 rcases hn with e | ⟨j,e,hj⟩
 ·rw [e];exact h2
 ·rw [e];intro e';have:=Option.some.inj e';omega
theorem NewQ.trans {a b:World}{x y z:Value}(h:NewQ a x y)(hs:a.heap.size≤b.heap.size)(h':NewQ b y z):NewQ a x z:=by
 rcases h' with e | ⟨k,e,hk⟩
 ·rcases h with e' | ⟨j,e',hj⟩
  ·exact .inl (e.trans e')
  ·exact .inr ⟨j,e.trans e',hj⟩
 ·exact .inr ⟨k,e,by omega⟩
theorem QM.of_grown {sb g:Nat}{qv:Value}{a b:World}(h:a.grownBy b (some g))(hq:qv.ownBlock=some g):QM sb qv a b:=⟨h.os,h.tape,h.output,h.size,fun k hk _ h2=>h.block k hk (by rw [← hq];exact h2)⟩
theorem QmK (sb base g cap:Nat)(X:List Value)(hX:X.length=5)(L:List StpT)(x:StpT)(w:World)(hS:SB w sb X (.slice (some ⟨g,0,none⟩) (L.length+1) cap))(hQ:QO w base (.slice (some ⟨g,0,none⟩) (L.length+1) cap) (L++[x]))(hne:sb≠g)(hm:L.length≤8796093022207):
  Calls Tryz.prog 235 #[.pointer (some ⟨sb,5,none⟩)] w fun e w'=>e = .returned (.iface 161 (.agg #[.int .i64 (x.1:Int),.int .i64 (x.2:Int)]))∧SB w' sb X (.slice (some ⟨g,0,none⟩) L.length cap)∧QO w' base (.slice (some ⟨g,0,none⟩) L.length cap) L∧QM sb (.slice (some ⟨g,0,none⟩) (L.length+1) cap) w w':=by
 have hc:w.cell? ⟨sb,5,none⟩=some (.slice (some ⟨g,0,none⟩) (L.length+1) cap):=hS.cell (by rw [List.getElem?_append_right (by omega),hX];rfl)
 have hf:w.frozen? ⟨sb,5,none⟩=false:=hS.frozen 5
 have hsl:=hS.lt
 have hc0:w.cell? ⟨g,L.length*2,none⟩=some (.int .i64 (x.1:Int))∧w.cell? ⟨g,L.length*2+1,none⟩=some (.int .i64 (x.2:Int)):=by
  have hlen:(L++[x]).length=L.length+1:=by simp
  have hQ':QO w base (.slice (some ⟨g,0,none⟩) (L++[x]).length cap) (L++[x]):=by rw [hlen];exact hQ
  have h1:=hQ'.cell (j:=L.length) (by rw [hlen];omega)
  simpa using h1
 obtain⟨d0,d1⟩:=hc0
 have hgl:g<w.heap.size:=World.block_lt_of_cell? w ⟨g,_,none⟩ d0
 have hcap:L.length+1≤cap:=by
  rcases hQ.2 with ⟨h1,_⟩ | ⟨g',cap',cur,h1,_,_,h3,_⟩
  ·cases h1
  ·simp only [Value.slice.injEq] at h1
   obtain⟨_,_,rfl⟩:=h1
   simpa using h3
 have HQ:Hid _:=hQ
 have HS:Hid _:=hS
 clear hQ hS
 go_enter Tryz.func235,Tryz.ntmps235
 go_wp2
 go_ret
 have hS0:SB w sb X (.slice (some ⟨g,0,none⟩) (L.length+1) cap):=HS.out
 have hQ0:w.ownsRow base 161 2 (.slice (some ⟨g,0,none⟩) (L.length+1) cap) (L.length+1) (flatQ L++encQ x):=by
  have h1:QO w base (.slice (some ⟨g,0,none⟩) (L.length+1) cap) (L++[x]):=HQ.out
  unfold QO at h1
  rw [Qfk,YI] at h1
  exact h1
 have hQ1:=ownsRow_pop (QgT L) hQ0
 have hQ2:=ownsRow_setCell_other hQ1 (a:=⟨sb,5,none⟩) (by show some g≠some sb;intro e;exact hne (Option.some.inj e).symm) (.slice (some ⟨g,0,none⟩) L.length cap)
 have hQ3:=World.ownsRow.alloc hQ2 (.cells #[.int .i64 (x.1:Int),.int .i64 (x.2:Int)] 161)
 have hS1:SB (w.setCell ⟨sb,5,none⟩ (.slice (some ⟨g,0,none⟩) L.length cap)) sb X (.slice (some ⟨g,0,none⟩) L.length cap):=by
  have h1:=hS0.set 5 (.slice (some ⟨g,0,none⟩) L.length cap)
  have h2:(X++[Value.slice (some ⟨g,0,none⟩) (L.length+1) cap]).set 5 (.slice (some ⟨g,0,none⟩) L.length cap)=X++[.slice (some ⟨g,0,none⟩) L.length cap]:=by
   rw [List.set_append_right _ _ (by omega),hX];rfl
  rwa [h2] at h1
 have hgA:(w.setCell ⟨sb,5,none⟩ (.slice (some ⟨g,0,none⟩) L.length cap)).grownBy ((w.setCell ⟨sb,5,none⟩ (.slice (some ⟨g,0,none⟩) L.length cap)).alloc (.cells #[.int .i64 (x.1:Int),.int .i64 (x.2:Int)] 161)) none:=World.grownBy_alloc _ _ _
 refine⟨rfl,(hgA.block sb hS1.lt (by simp)).trans hS1,hQ3,rfl,rfl,rfl,?_,fun k hk h1 h2=>?_⟩
 ·have:=hgA.size;simp only [World.size_setCell] at this;exact this
 ·rw [hgA.block k (by simpa using hk) (by simp),heap_setCell_other w ⟨sb,5,none⟩ k _ h1]
open Go Go.Proofs Go.RowKit Go.Joins
structure QS (w:World)(sb base:Nat)(X:List Value)(qv:Value)(L:List StpT):Prop where
 blk:SB w sb X qv
 own:QO w base qv L
 ne:some sb≠qv.ownBlock
theorem QS.cell {w:World}{sb base:Nat}{X:List Value}{qv:Value}{L:List StpT}(h:QS w sb base X qv L)(hX:X.length=5):w.cell? ⟨sb,5,none⟩=some qv:=h.blk.cell (by rw [List.getElem?_append_right (by omega),hX];rfl)
def QpP (sb base:Nat)(X:List Value)(qv:Value)(L:List StpT)(w w':World):Prop:=∃ qv' L',L'.Perm L∧QS w' sb base X qv' L'∧NewQ w qv qv'∧QM sb qv w w'
theorem QI.qs {w:World}{sb base g cap:Nat}{X:List Value}{L L':List StpT}{W:World}(hs:SB w sb X (.slice (some ⟨g,0,none⟩) L.length cap))(hg:w.grownBy W (some g))(hq:QI W sb base g cap L')(hl:L'.length=L.length):QS W sb base X (.slice (some ⟨g,0,none⟩) L'.length cap) L':=by
 refine⟨?_,hq.own,fun e=>hq.ne (Option.some.inj e)⟩
 rw [hl]
 exact (hg.block sb hs.lt (fun e=>hq.ne (Option.some.inj e))).trans hs
theorem QlO (sb base:Nat)(X:List Value)(hX:X.length=5)(qv:Value)(L:List StpT)(x:StpT)(w:World)(h:QS w sb base X qv L)(hm:L.length≤8796093022207)(hbase:base≤w.heap.size):
  Calls Tryz.prog 156 #[.iface 189 (.pointer (some ⟨sb,5,none⟩)),.iface 161 (.agg #[.int .i64 (x.1:Int),.int .i64 (x.2:Int)])] w fun e w'=>e = .returned (.tuple #[])∧QpP sb base X qv (L++[x]) w w':=by
 have hmix:=mixed
 have m1:=QhM ⟨sb,5,none⟩ w
 have hp:=QkO sb base X hX qv L x w h.blk h.own h.ne hm hbase
 go_enter Tryz.func156,Tryz.ntmps156
 go_wp2_with fail
 refine hp.mono ?_
 rintro e w1 ⟨rfl,qv1,hS1,hQ1,hn1,hM1⟩
 clear hp m1
 have hne1:some sb≠qv1.ownBlock:=by
  rcases hn1 with e | ⟨k,e,hk⟩
  ·rw [e];exact h.ne
  ·rw [e];intro e';have:=Option.some.inj e';have:=h.blk.lt;omega
 have hQS1:QS w1 sb base X qv1 (L++[x]):=⟨hS1,hQ1,hne1⟩
 obtain⟨g,cap,rfl⟩:=ownsRow_form hQ1 (by simp)
 have hc1:=hQS1.cell hX
 have m2:=Qe7 ⟨sb,5,none⟩ w1 _ hc1
 have hlen:(L++[x]).length=L.length+1:=by simp
 have hq1:QI w1 sb base g cap (L++[x]):=⟨hc1,hQ1,fun e=>hne1 (congrArg some e)⟩
 have hu:=Qpo sb base g cap (L++[x]) L.length w1 hq1 (by omega) (by omega)
 have HE:Hid _:=hlen
 rw [hlen] at m2 hc1
 clear hlen
 go_wp2_with (go_at_call 129;refine (QdR _ _ _ _).mono ?_;rintro e w' ⟨rfl,rfl⟩)
 refine hu.mono ?_
 rintro e w2 ⟨rfl,L2,hp2,hg2,hq2⟩
 clear hu m2 hc1
 go_wp2
 refine bodyPost_end (results_none rfl _ _ _) rfl ⟨rfl,_,L2,hp2,QI.qs hS1 hg2 hq2 hp2.length_eq,hn1.trans hM1.2.2.2.1 (.inl rfl),hM1.trans hn1 (QM.of_grown hg2 rfl)⟩
def OffQ (sb base:Nat)(X:List Value)(qv:Value)(L:List StpT)(w:World)(e:Ending)(w':World):Prop:=∃ (x:StpT) (qv':Value) (L':List StpT),e = .returned (.iface 161 (.agg #[.int .i64 (x.1:Int),.int .i64 (x.2:Int)]))∧(x :: L').Perm L∧QS w' sb base X qv' L'∧NewQ w qv qv'∧QM sb qv w w'
theorem Qnv (sb base:Nat)(X:List Value)(hX:X.length=5)(qv:Value)(L:List StpT)(w:World)(h:QS w sb base X qv L)(h0:0<L.length)(hm:L.length≤8796093022208):
  Calls Tryz.prog 157 #[.iface 189 (.pointer (some ⟨sb,5,none⟩))] w fun e w'=>OffQ sb base X qv L w e w':=by
 have hmix:=mixed
 obtain⟨g,cap,rfl⟩:=ownsRow_form h.own h0
 have hc:=h.cell hX
 have m1:=Qe7 ⟨sb,5,none⟩ w _ hc
 have m2:=Qbj ⟨sb,5,none⟩ w _ hc
 obtain⟨n,hn⟩:∃ n:Nat,L.length=n+1:=⟨L.length-1,by omega⟩
 have hne:sb≠g:=fun e=>h.ne (congrArg some e)
 have hQ0:=h.own
 have hS0:=h.blk
 have HN:Hid _:=hn
 unfold QO at hQ0
 have hsw:=QfB base g cap L 0 n (n+1) w hn (by unfold QO;rw [hn] at hQ0 ⊢;exact hQ0) (by omega) (by omega)
 rw [hn] at hc m1 m2 hm
 rw [hn] at hS0 ⊢
 clear hn
 go_enter Tryz.func157,Tryz.ntmps157
 go_wp2_with (go_at_call 129;refine (QdR _ _ _ _).mono ?_;rintro e w' ⟨rfl,rfl⟩)
 refine hsw.mono ?_
 rintro e w1 ⟨rfl,L1,hl1,hp1,_,ha1,hg1,ho1⟩
 clear hsw m1 m2
 have hc1:w1.cell? ⟨sb,5,none⟩=some (.slice (some ⟨g,0,none⟩) (n+1) cap):=hg1.cell hc (fun e=>hne (Option.some.inj e))
 have HL1:Hid _:=hl1
 have hq1:QI w1 sb base g cap L1:=⟨by rw [hl1];exact hc1,by rw [hl1];exact ho1,hne⟩
 have hd:=QnF sb base g cap L1 n w1 hq1 (by omega) (by omega)
 clear hl1
 go_wp2_with fail
 refine hd.mono ?_
 rintro e w2 ⟨⟨b,rfl⟩,L2,hp2,ha2,hg2,hq2⟩
 clear hd hc1
 have hl2:L2.length=n+1:=hp2.length_eq.trans HL1.out
 have hg12:=Qbk hg1 hg2
 obtain⟨L3,x,rfl⟩:∃ L3 x,L2=L3++[x]:=by
  refine⟨L2.dropLast,L2.getLast (by intro e;rw [e] at hl2;simp at hl2),(List.dropLast_concat_getLast _).symm⟩
 have hl3:L3.length=n:=by simpa using hl2
 have hc2:=hq2.cell
 have ho2:=hq2.own
 rw [hl2] at hc2 ho2
 have hS2:SB w2 sb X (.slice (some ⟨g,0,none⟩) (n+1) cap):=(hg12.block sb hS0.lt (fun e=>hne (Option.some.inj e))).trans hS0
 have m3:=Qju ⟨sb,5,none⟩ w2
 have hpop:=QmK sb base g cap X hX L3 x w2 (by rw [hl3];exact hS2) (by rw [hl3];exact ho2) hne (by omega)
 have HL3:Hid _:=hl3
 clear hl2 hl3
 go_wp2_with fail
 refine hpop.mono ?_
 rintro e w3 ⟨rfl,hS3,hQ3,hM3⟩
 clear hpop m3
 go_wp2
 go_ret
 refine⟨x,_,L3,rfl,?_,⟨hS3,hQ3,fun e=>hne (Option.some.inj e)⟩,.inl rfl,(QM.of_grown hg12 rfl).trans (.inl rfl) hM3⟩
 exact (List.perm_append_comm.trans hp2).trans hp1
def ATI (lo hi hA N:Nat)(pl:Nat→List Nat)(W:World):Prop:=
 lo≤hA∧hA<hi∧∀ v,v<N→∃ p c,W.cell? ⟨hA,v,none⟩=some (.slice p (pl v).length c)∧∀ (i:Nat) (h:i<(pl v).length),∃ b off,p=some ⟨b,off,none⟩∧lo≤b∧b<hi∧W.cell? ⟨b,off+i,none⟩=some (.int .i64 ((pl v)[i]:Int))
theorem ATI.keep {lo hi hA N:Nat}{pl:Nat→List Nat}{W W':World}(h:ATI lo hi hA N pl W)(hk:∀ k,lo≤k→k<hi→W'.heap[k]? = W.heap[k]?):ATI lo hi hA N pl W':=by
 obtain⟨h1,h2,h3⟩:=h
 refine⟨h1,h2,fun v hv=>?_⟩
 obtain⟨p,c,h4,h5⟩:=h3 v hv
 refine⟨p,c,(World.cell?_of_block (a:=⟨hA,v,none⟩) (hk hA h1 h2)).trans h4,fun i hi=>?_⟩
 obtain⟨b,off,h6,h7,h8,h9⟩:=h5 i hi
 exact⟨b,off,h6,h7,h8,(World.cell?_of_block (a:=⟨b,off+i,none⟩) (hk b h7 h8)).trans h9⟩
theorem ATI.of_grp {h0 N:Nat}{L:List Eg}{svs:List Value}{W:World}(h:GrpT h0 (.slice (some ⟨h0,0,none⟩) N N) svs (atW N L L.length) W):ATI h0 W.heap.size h0 N (plW L L.length) W:=by
 have hlt:=(h.own.lt h0 rfl).2
 have hsv:svs.length=N:=h.len.trans (Qdz _ _ _)
 refine⟨YA,hlt,fun v hv=>?_⟩
 obtain⟨sv,hs⟩:∃ sv,svs[v]? = some sv:=⟨_,YB (by omega)⟩
 have hi:=h.inn v sv _ hs (Qg7 hv)
 obtain⟨p,c,rfl⟩:=Qan hi
 rw [List.length_map] at hi hs
 have hr:=h.own
 rw [hsv] at hr
 refine⟨p,c,(hr.cellAt v (by omega)).trans hs,fun i hi'=>?_⟩
 obtain⟨g,cap,e⟩:=QcP hi (by omega)
 simp only [Value.slice.injEq] at e
 obtain⟨rfl,_,rfl⟩:=e
 have hb:=hi.lt g rfl
 refine⟨g,0,rfl,hb.1,hb.2,?_⟩
 rw [Nat.zero_add,hi.cellAt i (by omega)]
 simp [hi']
structure SL where
 N:Nat
 L:List Eg
 p:Option Addr
 c:Nat
 h1:Nat
 lo:Nat
 hi:Nat
 hA:Nat
 sb:Nat
 bD:Nat
 bV:Nat
def SL.X (S:SL):List Value:=[.int .i64 (S.N:Int),.slice S.p S.L.length S.c,.slice (some ⟨S.hA,0,none⟩) S.N S.N,.slice (some ⟨S.bD,0,none⟩) S.N S.N,.slice (some ⟨S.bV,0,none⟩) S.N S.N]
structure SLok (S:SL):Prop where
 n:S.N≤1048576
 m:S.L.length≤4194304
 ends:∀ e∈S.L,e.1<S.N∧e.2.1<S.N
 few:∀ e∈S.L,e.2.2≤2147483647
 hi:S.hi≤S.h1
 s:S.sb<S.h1∧¬ (S.lo≤S.sb∧S.sb<S.hi)∧S.sb≠S.bD∧S.sb≠S.bV
 d:S.bD<S.h1∧¬ (S.lo≤S.bD∧S.bD<S.hi)∧S.bD≠S.bV
 v:S.bV<S.h1∧¬ (S.lo≤S.bV∧S.bV<S.hi)
structure SM (S:SL)(D V:List Int)(qv:Value)(Q:List StpT)(W:World):Prop where
 blk:SB W S.sb S.X qv
 dist:Blk 2 W S.bD (D.map (Value.int .i64))
 via:Blk 3 W S.bV (V.map (Value.int .i64))
 at':ATI S.lo S.hi S.hA S.N (plW S.L S.L.length) W
 own:QO W S.h1 qv Q
 size:S.h1≤W.heap.size
structure Fr (S:SL)(w w':World):Prop where
 os:w'.os=w.os
 tape:w'.tape=w.tape
 output:w'.output=w.output
 size:w.heap.size≤w'.heap.size
 block:∀ k,k<S.h1→k≠S.sb→k≠S.bD→k≠S.bV→w'.heap[k]? = w.heap[k]?
theorem Fr.refl (S:SL)(w:World):Fr S w w:=⟨rfl,rfl,rfl,YA,fun _ _ _ _ _=>rfl⟩
theorem Fr.trans {S:SL}{a b c:World}(h:Fr S a b)(h':Fr S b c):Fr S a c:=
 ⟨h'.os.trans h.os,h'.tape.trans h.tape,h'.output.trans h.output,Nat.le_trans h.size h'.size,fun k a b c d=>(h'.block k a b c d).trans (h.block k a b c d)⟩
theorem Fr.below {S:SL}{w0 a b:World}(hb:Below w0.heap.size w0 a)(h:Fr S a b)(h1:w0.heap.size≤S.h1)(hs:w0.heap.size≤S.sb)(hd:w0.heap.size≤S.bD)(hv:w0.heap.size≤S.bV):Below w0.heap.size w0 b:=
 ⟨h.os.trans hb.os,h.tape.trans hb.tape,h.output.trans hb.output,Nat.le_trans hb.size h.size,fun k hk=>(h.block k (by omega) (by omega) (by omega) (by omega)).trans (hb.block k hk)⟩
theorem SM.ne {S:SL}{D V:List Int}{qv:Value}{Q:List StpT}{W:World}(h:SM S D V qv Q W){k:Nat}(hk:k<S.h1):some k≠qv.ownBlock:=fun e=>by
 have:=(h.own.lt k e.symm).1
 omega
theorem SM.qs {S:SL}{D V:List Int}{qv:Value}{Q:List StpT}{W:World}(h:SM S D V qv Q W)(ok:SLok S):QS W S.sb S.h1 S.X qv Q:=⟨h.blk,h.own,h.ne ok.s.1⟩
theorem SM.fr {S:SL}{D V:List Int}{qv:Value}{Q:List StpT}{W W':World}(h:SM S D V qv Q W)(hm:QM S.sb qv W W'):Fr S W W':=
 ⟨hm.1,hm.2.1,hm.2.2.1,hm.2.2.2.1,fun k hk h1 _ _=>hm.2.2.2.2 k (Nat.lt_of_lt_of_le hk h.size) h1 (h.ne hk)⟩
theorem SM.act {S:SL}{D V:List Int}{qv qv':Value}{Q Q':List StpT}{W W':World}(h:SM S D V qv Q W)(ok:SLok S)(hm:QM S.sb qv W W')(hq:QS W' S.sb S.h1 S.X qv' Q'):SM S D V qv' Q' W':=by
 have hk:∀ k,k<S.h1→k≠S.sb→W'.heap[k]? = W.heap[k]?:=fun k hk h1=>hm.2.2.2.2 k (Nat.lt_of_lt_of_le hk h.size) h1 (h.ne hk)
 refine⟨hq.blk,(hk _ ok.d.1 (Ne.symm ok.s.2.2.1)).trans h.dist,(hk _ ok.v.1 (Ne.symm ok.s.2.2.2)).trans h.via,h.at'.keep fun k h1 h2=>hk k (Nat.lt_of_lt_of_le h2 ok.hi) (fun e=>ok.s.2.1 (e ▸ ⟨h1,h2⟩)),hq.own,Nat.le_trans h.size hm.2.2.2.1⟩
theorem SL.X_len (S:SL):S.X.length=5:=rfl
theorem SM.cells {S:SL}{D V:List Int}{qv:Value}{Q:List StpT}{W:World}(h:SM S D V qv Q W):
  W.cell? ⟨S.sb,0,none⟩=some (.int .i64 (S.N:Int))∧W.cell? ⟨S.sb,1,none⟩=some (.slice S.p S.L.length S.c)∧W.cell? ⟨S.sb,2,none⟩=some (.slice (some ⟨S.hA,0,none⟩) S.N S.N)∧W.cell? ⟨S.sb,3,none⟩=some (.slice (some ⟨S.bD,0,none⟩) S.N S.N)∧W.cell? ⟨S.sb,4,none⟩=some (.slice (some ⟨S.bV,0,none⟩) S.N S.N)∧W.cell? ⟨S.sb,5,none⟩=some qv:=
 ⟨h.blk.cell (j:=0) rfl,h.blk.cell (j:=1) rfl,h.blk.cell (j:=2) rfl,h.blk.cell (j:=3) rfl,h.blk.cell (j:=4) rfl,h.blk.cell (j:=5) rfl⟩
theorem SM.put {S:SL}{D V:List Int}{qv:Value}{Q:List StpT}{W:World}(h:SM S D V qv Q W)(ok:SLok S)(v:Nat)(x y:Int):
  SM S (D.set v x) (V.set v y) qv Q ((W.setCell ⟨S.bD,v,none⟩ (.int .i64 x)).setCell ⟨S.bV,v,none⟩ (.int .i64 y))∧Fr S W ((W.setCell ⟨S.bD,v,none⟩ (.int .i64 x)).setCell ⟨S.bV,v,none⟩ (.int .i64 y)):=by
 have hk:∀ k,k≠S.bD→k≠S.bV→((W.setCell ⟨S.bD,v,none⟩ (.int .i64 x)).setCell ⟨S.bV,v,none⟩ (.int .i64 y)).heap[k]? = W.heap[k]?:=fun k h1 h2=>by
  rw [heap_setCell_other _ ⟨S.bV,v,none⟩ k _ h2,heap_setCell_other _ ⟨S.bD,v,none⟩ k _ h1]
 refine⟨⟨(hk _ ok.s.2.2.1 ok.s.2.2.2).trans h.blk,?_,?_,h.at'.keep fun k h1 h2=>hk k (fun e=>ok.d.2.1 (e ▸ ⟨h1,h2⟩)) (fun e=>ok.v.2 (e ▸ ⟨h1,h2⟩)),?_,by simpa using h.size⟩,⟨rfl,rfl,rfl,by simp,fun k _ _ h1 h2=>hk k h1 h2⟩⟩
 ·rw [List.map_set]
  exact (h.dist.set v (.int .i64 x)).other (p:=⟨S.bV,v,none⟩) ok.d.2.2 _
 ·rw [List.map_set]
  exact (h.via.other (p:=⟨S.bD,v,none⟩) (Ne.symm ok.d.2.2) _).set v (.int .i64 y)
 ·exact ownsRow_setCell_other (ownsRow_setCell_other h.own (a:=⟨S.bD,v,none⟩) (Ne.symm (h.ne ok.d.1)) _) (a:=⟨S.bV,v,none⟩) (Ne.symm (h.ne ok.v.1)) _
theorem SM.drewN {S:SL}{D V:List Int}{qv:Value}{Q:List StpT}{W:World}(h:SM S D V qv Q W)(k:Nat):SM S D V qv Q (W.drewN k):=⟨h.blk,h.dist,h.via,h.at',h.own,h.size⟩
theorem Fr.drewN {S:SL}{a b:World}(h:Fr S a b)(k:Nat):Fr S a (b.drewN k):=⟨h.os,h.tape,h.output,h.size,h.block⟩
theorem SM.go {S:SL}{D V:List Int}{qv:Value}{Q:List StpT}{W W':World}(h:SM S D V qv Q W)(ok:SLok S)(hb:Below W.heap.size W W'):SM S D V qv Q W':=
 ⟨h.blk.go hb,h.dist.go hb,h.via.go hb,h.at'.keep fun k _ h2=>hb.block k (Nat.lt_of_lt_of_le (Nat.lt_of_lt_of_le h2 ok.hi) h.size),Qaq h.own hb,Nat.le_trans h.size hb.size⟩
theorem Fr.of_below {S:SL}{a b:World}(h:S.h1≤a.heap.size)(hb:Below a.heap.size a b):Fr S a b:=⟨hb.os,hb.tape,hb.output,hb.size,fun k hk _ _ _=>hb.block k (by omega)⟩
theorem SM.high {S:SL}{D V:List Int}{qv:Value}{Q:List StpT}{W:World}(h:SM S D V qv Q W)(ok:SLok S){k:Nat}(hk:S.h1≤k)(hne:qv.ownBlock≠some k)(j:Nat)(u:Value):SM S D V qv Q (W.setCell ⟨k,j,none⟩ u):=by
 have hb:∀ m,m<S.h1→(W.setCell ⟨k,j,none⟩ u).heap[m]? = W.heap[m]?:=fun m hm=>heap_setCell_other _ ⟨k,j,none⟩ m _ (by show m≠k;omega)
 exact⟨(hb _ ok.s.1).trans h.blk,(hb _ ok.d.1).trans h.dist,(hb _ ok.v.1).trans h.via,h.at'.keep fun m _ hm=>hb m (Nat.lt_of_lt_of_le hm ok.hi),ownsRow_setCell_other h.own (a:=⟨k,j,none⟩) hne u,by simpa using h.size⟩
theorem Fr.high {S:SL}{a b:World}(h:Fr S a b){k:Nat}(hk:S.h1≤k)(j:Nat)(u:Value):Fr S a (b.setCell ⟨k,j,none⟩ u):=
 ⟨h.os,h.tape,h.output,by simpa using h.size,fun m h1 h2 h3 h4=>(heap_setCell_other _ ⟨k,j,none⟩ m _ (by show m≠k;omega)).trans (h.block m h1 h2 h3 h4)⟩
end Go.Proofs.YtalflecmadacaaaGreat
