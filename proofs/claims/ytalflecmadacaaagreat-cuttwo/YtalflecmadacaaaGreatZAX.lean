import Derived.Deep.QuietTactic
import Derived.BigQuiet
import Derived.Deep.RegionHeld3
import Derived.Test.YtalflecmadacaaaGreatZAW
set_option maxRecDepth 100000
set_option maxHeartbeats 8000000
namespace Go.Proofs.YtalflecmadacaaaGreat
open Go Go.Proofs Go.RowKit
structure ND where
 s:Int
 vf:Int
 vt:Int
 nf:Int
 nt:Int
 h:Int
 b:Int
def ND.l (A:ND):List Value:=nodeV A.s A.vf A.vt A.nf A.nt A.h A.b
def VS (c:Nat)(sp:Value)(A B C:ND)(y0 y1 m0 m1:Int):FV:=⟨sp,A.l++(B.l++C.l),[.int .i64 y0,.int .i64 y1],[.int .i64 m0,.int .i64 m1],w01,[.int .i64 0,.int .i64 (2*(c:Int))],[.int .i64 (2*(c:Int)),.int .i64 0],eA,eB,linkN⟩
def nA:ND:=⟨0,0,0,0,0,-1,0⟩
def nB:ND:=⟨0,0,0,0,0,-1,1⟩
def nC:ND:=⟨0,0,0,0,0,-2,0⟩
theorem QaS (a b:Int)(w:World):Calls Tryz.prog 175 #[.agg #[.int .i64 a,.int .i64 b]] w fun e w'=>e = .returned (.bool (a != -1))∧Grew w w':=by
 have hg1:Grew w (w.alloc (.cells #[.int .i64 a,.int .i64 b] 171)):=(Grew.refl w).alloc _
 go_enter Tryz.func175,Tryz.ntmps175
 go_wp2
 go_ret
 exact⟨rfl,hg1⟩
theorem QfO (fb nb x:Nat)(h:Int)(hx:x<3)(w:World)(h2:w.cell? ⟨fb,2,none⟩=some (.slice (some ⟨nb,0,none⟩) 3 3))(h5:w.cell? ⟨nb,x*10+5,none⟩=some (.int .i64 h)):Calls Tryz.prog 162 #[.pointer (some ⟨fb,0,none⟩),.int .i64 (x:Int)] w fun e w'=>e = .returned (.bool (h == -1))∧w'=w:=by
 have hx':(x:Int)<3:=by omega
 go_enter Tryz.func162,Tryz.ntmps162
 go_wp2
 go_ret
 exact⟨rfl,rfl⟩
section
variable (x:Nat) (w0:World) (Bk:Nat→Nat) (b off c q:Nat) (sp:Value) (A B C:ND) (y0 y1 m0 m1:Int)
theorem QlC (w:World)(hM:FM x w0 Bk (.slice (some ⟨b,off,none⟩) 1 q) (VS c sp A B C y0 y1 m0 m1) w):Calls Tryz.prog 162 #[.pointer (some ⟨Bk 0,0,none⟩),.int .i64 0] w fun e w'=>e = .returned (.bool (A.h == -1))∧w'=w:=
 QfO (Bk 0) (Bk 1) 0 A.h (by omega) w (hM.cell 0 2 (by omega) rfl) (hM.cell 1 5 (by omega) rfl)
theorem QlB (w:World)(hM:FM x w0 Bk (.slice (some ⟨b,off,none⟩) 1 q) (VS c sp A B C y0 y1 m0 m1) w):Calls Tryz.prog 162 #[.pointer (some ⟨Bk 0,0,none⟩),.int .i64 1] w fun e w'=>e = .returned (.bool (B.h == -1))∧w'=w:=
 QfO (Bk 0) (Bk 1) 1 B.h (by omega) w (hM.cell 0 2 (by omega) rfl) (hM.cell 1 15 (by omega) rfl)
theorem QgM (w:World)(hM:FM x w0 Bk (.slice (some ⟨b,off,none⟩) 1 q) (VS c sp A B C y0 y1 m0 m1) w):Calls Tryz.prog 162 #[.pointer (some ⟨Bk 0,0,none⟩),.int .i64 2] w fun e w'=>e = .returned (.bool (C.h == -1))∧w'=w:=
 QfO (Bk 0) (Bk 1) 2 C.h (by omega) w (hM.cell 0 2 (by omega) rfl) (hM.cell 1 25 (by omega) rfl)
theorem QoB (hc:c<1099511627776)(w:World)(hM:FM x w0 Bk (.slice (some ⟨b,off,none⟩) 1 q) (VS c sp A B C (-(c:Int)) (-(c:Int)) m0 m1) w)(hx:x≤w.heap.size):Calls Tryz.prog 176 #[.pointer (some ⟨Bk 0,0,none⟩),.agg #[.int .i64 1,.int .i64 0]] w fun e w'=>e = .returned (.int .i64 0)∧Below w.heap.size w w':=by
 have hmix:=mixed
 have hal:Below w.heap.size w (w.alloc (.cells #[.int .i64 1,.int .i64 0] 171)):=YD.alloc YA _
 have hL:Blk 171 (w.alloc (.cells #[.int .i64 1,.int .i64 0] 171)) w.heap.size [.int .i64 1,.int .i64 0]:=heap_alloc_new w _
 have hN:=hM.go hx hal
 have k4:=hN.cell 0 4 (by omega) rfl
 have k8:=hN.cell 0 8 (by omega) rfl
 have a0:=hN.cell 2 0 (by omega) rfl
 have a1:=hN.cell 2 1 (by omega) rfl
 have b1:=hN.cell 8 1 (by omega) rfl
 have t0:=hN.cell 10 0 (by omega) rfl
 have l0:=hL.cell (j:=0) rfl
 have l1:=hL.cell (j:=1) rfl
 have HAL:Hid _:=hal
 clear hM hN hL hal
 go_enter Tryz.func176,Tryz.ntmps176
 go_wp2
 go_quiet (fail)
 go_wp2
 go_ret
 refine⟨?_,Qaa HAL.out nq⟩
 show Ending.returned (.int .i64 _)=_
 congr 2
 omega
theorem QoC (hc:c<1099511627776)(w:World)(hM:FM x w0 Bk (.slice (some ⟨b,off,none⟩) 1 q) (VS c sp A B C (-(c:Int)) (-(c:Int)) m0 m1) w)(hx:x≤w.heap.size):Calls Tryz.prog 176 #[.pointer (some ⟨Bk 0,0,none⟩),.agg #[.int .i64 0,.int .i64 1]] w fun e w'=>e = .returned (.int .i64 0)∧Below w.heap.size w w':=by
 have hmix:=mixed
 have hal:Below w.heap.size w (w.alloc (.cells #[.int .i64 0,.int .i64 1] 171)):=YD.alloc YA _
 have hL:Blk 171 (w.alloc (.cells #[.int .i64 0,.int .i64 1] 171)) w.heap.size [.int .i64 0,.int .i64 1]:=heap_alloc_new w _
 have hN:=hM.go hx hal
 have k4:=hN.cell 0 4 (by omega) rfl
 have k8:=hN.cell 0 8 (by omega) rfl
 have a0:=hN.cell 2 0 (by omega) rfl
 have a1:=hN.cell 2 1 (by omega) rfl
 have b1:=hN.cell 8 0 (by omega) rfl
 have t0:=hN.cell 9 1 (by omega) rfl
 have l0:=hL.cell (j:=0) rfl
 have l1:=hL.cell (j:=1) rfl
 have HAL:Hid _:=hal
 clear hM hN hL hal
 go_enter Tryz.func176,Tryz.ntmps176
 go_wp2
 go_quiet (fail)
 go_wp2
 go_ret
 refine⟨?_,Qaa HAL.out nq⟩
 show Ending.returned (.int .i64 _)=_
 congr 2
 omega
end
theorem Qke {w W':World}{a0 a1 b0 b1:Value}{ta tb:TypeId}(h:Grew ((w.alloc (.cells #[a0,a1] ta)).alloc (.cells #[b0,b1] tb)) W'):W'.cell? ⟨w.heap.size,0,none⟩=some a0∧W'.cell? ⟨w.heap.size,1,none⟩=some a1∧W'.cell? ⟨w.heap.size+1,0,none⟩=some b0∧W'.cell? ⟨w.heap.size+1,1,none⟩=some b1:=by
 have h1:Blk ta (w.alloc (.cells #[a0,a1] ta)) w.heap.size [a0,a1]:=heap_alloc_new w _
 have h2:Blk tb ((w.alloc (.cells #[a0,a1] ta)).alloc (.cells #[b0,b1] tb)) (w.alloc (.cells #[a0,a1] ta)).heap.size [b0,b1]:=heap_alloc_new _ _
 have h3:=(h1.go (YD.alloc YA _:Below _ _ ((w.alloc (.cells #[a0,a1] ta)).alloc (.cells #[b0,b1] tb)))).go h.below
 have h4:=h2.go h.below
 have e:(w.alloc (.cells #[a0,a1] ta)).heap.size=w.heap.size+1:=by simp
 rw [e] at h4
 exact⟨h3.cell (j:=0) rfl,h3.cell (j:=1) rfl,h4.cell (j:=0) rfl,h4.cell (j:=1) rfl⟩
theorem QdJ (f:Value)(a b:Int)(ha:(a != -1)=true)(w:World):Calls Tryz.prog 193 #[f,.agg #[.int .i64 a,.int .i64 b],.agg #[.int .i64 (-1),.int .i64 (-1)]] w fun e w'=>e = .returned (.bool true)∧Grew w w':=by
 have hmix:=mixed
 have hg0:Grew w ((w.alloc (.cells #[.int .i64 a,.int .i64 b] 171)).alloc (.cells #[.int .i64 (-1),.int .i64 (-1)] 171)):=((Grew.refl w).alloc _).alloc _
 obtain⟨x0,x1,y0,y1⟩:=Qke (w:=w) (a0:=.int .i64 a) (a1:=.int .i64 b) (b0:=.int .i64 (-1)) (b1:=.int .i64 (-1)) (ta:=171) (tb:=171) (Grew.refl _)
 have hsz:((w.alloc (.cells #[.int .i64 a,.int .i64 b] 171)).alloc (.cells #[.int .i64 (-1),.int .i64 (-1)] 171)).heap.size=w.heap.size+1+1:=by simp
 go_enter Tryz.func193,Tryz.ntmps193
 go_wp2
 obtain⟨W1,hW1⟩:∃ W,(w.alloc (.cells #[.int .i64 a,.int .i64 b] 171)).alloc (.cells #[.int .i64 (-1),.int .i64 (-1)] 171)=W:=⟨_,rfl⟩
 rw [hW1] at x0 x1 y0 y1 hsz hg0 ⊢
 clear hW1
 have g0:=cell_grown (a:=⟨w.heap.size,0,none⟩) (by show w.heap.size<_;omega) x0
 have g1:=cell_grown (a:=⟨w.heap.size,1,none⟩) (by show w.heap.size<_;omega) x1
 have g2:=cell_grown (a:=⟨w.heap.size+1,0,none⟩) (by show w.heap.size+1<_;omega) y0
 have g3:=cell_grown (a:=⟨w.heap.size+1,1,none⟩) (by show w.heap.size+1<_;omega) y1
 clear x0 x1 y0 y1 hsz
 go_quiet_grown (first | (go_at_call 175;refine Calls.grown_of (QaS _ _ _)))
 go_wp2
 go_ret
 exact⟨rfl,hg0.trans ⟨nq,osq,rfl⟩⟩
section
variable (x:Nat) (w0:World) (Bk:Nat→Nat) (b off c q:Nat) (sp:Value) (A B C:ND) (y0 y1 m0 m1:Int)
theorem Qpv (hP:FP x w0 Bk b off c)(hA1:A.nf = -1)(hA2:A.nt = -1)(w:World)(hM:FM x w0 Bk (.slice (some ⟨b,off,none⟩) 1 q) (VS c sp A B C y0 y1 m0 m1) w):Calls Tryz.prog 174 #[.pointer (some ⟨Bk 0,0,none⟩),.int .i64 0,.agg #[.int .i64 1,.int .i64 0]] w fun e w'=>e = .returned (.tuple #[])∧FM x w0 Bk (.slice (some ⟨b,off,none⟩) 1 q) (VS c sp { A with nf:=1,nt:=0 } B C y0 y1 m0 m1) w':=by
 have hmix:=mixed
 have hx:x≤w.heap.size:=by have h1:=hM.lt 0 (by omega);have h2:=hP.lo 0 (by omega);omega
 have hal:Below w.heap.size w (w.alloc (.cells #[.int .i64 1,.int .i64 0] 171)):=YD.alloc YA _
 have hL:Blk 171 (w.alloc (.cells #[.int .i64 1,.int .i64 0] 171)) w.heap.size [.int .i64 1,.int .i64 0]:=heap_alloc_new w _
 have hN:=hM.go hx hal
 have hfl:=hM.lt 1 (by omega)
 obtain⟨s0,vf0,vt0,nf0,nt0,h0,b0⟩:=A
 simp only at hA1 hA2
 subst hA1 hA2
 have HP:Hid _:=hP
 clear hM hP hal
 go_enter Tryz.func174,Tryz.ntmps174
 go_wp2
 obtain⟨W1,hW1⟩:∃ W,w.alloc (.cells #[.int .i64 1,.int .i64 0] 171)=W:=⟨_,rfl⟩
 rw [hW1] at hN hL ⊢
 obtain⟨lb,hlb⟩:∃ n,w.heap.size=n:=⟨_,rfl⟩
 rw [hlb] at hL hfl hx ⊢
 clear hW1 hlb
 have l0:=hL.cell (j:=0) rfl
 have l1:=hL.cell (j:=1) rfl
 have k2:=hN.cell 0 2 (by omega) rfl
 have a3:=hN.cell 1 3 (by omega) rfl
 have a4:=hN.cell 1 4 (by omega) rfl
 have hlt:=hL.lt
 have e0:=cell_grown (a:=⟨lb,0,none⟩) hlt l0
 have e1:=cell_grown (a:=⟨lb,1,none⟩) hlt l1
 have e2:=cell_grown (a:=⟨Bk 0,2,none⟩) (hN.lt 0 (by omega)) k2
 have e3:=cell_grown (a:=⟨Bk 1,3,none⟩) (hN.lt 1 (by omega)) a3
 have e4:=cell_grown (a:=⟨Bk 1,4,none⟩) (hN.lt 1 (by omega)) a4
 clear l0 l1 k2 a3 a4
 have HN:Hid (FM x w0 Bk (.slice (some ⟨b,off,none⟩) 1 q) (VS c sp ⟨s0,vf0,vt0,-1,-1,h0,b0⟩ B C y0 y1 m0 m1) W1):=hN
 have HL:Hid (Blk 171 W1 lb [.int .i64 1,.int .i64 0]):=hL
 clear hN hL
 go_quiet_grown (first | (go_at_call 193;refine Calls.grown_of (QdJ _ 1 0 rfl _)))
 obtain⟨W2,hW2⟩:∃ W,Go.Sort.grow (W1.drewN nq) osq=W:=⟨_,rfl⟩
 have hg2:Below W1.heap.size W1 W2:=Grew.below ⟨nq,osq,hW2.symm⟩
 have hM2:FM x w0 Bk (.slice (some ⟨b,off,none⟩) 1 q) (VS c sp ⟨s0,vf0,vt0,-1,-1,h0,b0⟩ B C y0 y1 m0 m1) W2:=HN.out.go (by omega) hg2
 have hL2:Blk 171 W2 lb [.int .i64 1,.int .i64 0]:=HL.out.go hg2
 show Exit.then _ _ Exit.normal _ (Go.Sort.grow (W1.drewN nq) osq)
 rw [hW2]
 clear hW2 hg2 e0 e1 e2 e3 e4 HN HL
 have l0:=hL2.cell (j:=0) rfl
 have l1:=hL2.cell (j:=1) rfl
 have k2:=hM2.cell 0 2 (by omega) rfl
 have a3:=hM2.cell 1 3 (by omega) rfl
 have a4:=hM2.cell 1 4 (by omega) rfl
 have f3:=hM2.frozen 1 3 (by omega)
 have f4:=hM2.frozen 1 4 (by omega)
 have d1:Bk 0≠Bk 1:=HP.out.ne (by omega) (by omega) (by omega)
 have d2:lb≠Bk 1:=by omega
 have HM3:Hid (FM x w0 Bk (.slice (some ⟨b,off,none⟩) 1 q) (VS c sp ⟨s0,vf0,vt0,1,0,h0,b0⟩ B C y0 y1 m0 m1) ((W2.setCell ⟨Bk 1,3,none⟩ (.int .i64 1)).setCell ⟨Bk 1,4,none⟩ (.int .i64 0))):=(hM2.setN HP.out 3 _).setN HP.out 4 _
 clear hM2 hL2
 go_wp2
 go_big_region_o
 go_wp2
 exact bodyPost_end (results_none rfl _ _ _) rfl ⟨rfl,HM3.out.drew⟩
theorem Qpu (hP:FP x w0 Bk b off c)(hA1:B.nf = -1)(hA2:B.nt = -1)(w:World)(hM:FM x w0 Bk (.slice (some ⟨b,off,none⟩) 1 q) (VS c sp A B C y0 y1 m0 m1) w):Calls Tryz.prog 174 #[.pointer (some ⟨Bk 0,0,none⟩),.int .i64 1,.agg #[.int .i64 0,.int .i64 1]] w fun e w'=>e = .returned (.tuple #[])∧FM x w0 Bk (.slice (some ⟨b,off,none⟩) 1 q) (VS c sp A { B with nf:=0,nt:=1 } C y0 y1 m0 m1) w':=by
 have hmix:=mixed
 have hx:x≤w.heap.size:=by have h1:=hM.lt 0 (by omega);have h2:=hP.lo 0 (by omega);omega
 have hal:Below w.heap.size w (w.alloc (.cells #[.int .i64 0,.int .i64 1] 171)):=YD.alloc YA _
 have hL:Blk 171 (w.alloc (.cells #[.int .i64 0,.int .i64 1] 171)) w.heap.size [.int .i64 0,.int .i64 1]:=heap_alloc_new w _
 have hN:=hM.go hx hal
 have hfl:=hM.lt 1 (by omega)
 obtain⟨s0,vf0,vt0,nf0,nt0,h0,b0⟩:=B
 simp only at hA1 hA2
 subst hA1 hA2
 have HP:Hid _:=hP
 clear hM hP hal
 go_enter Tryz.func174,Tryz.ntmps174
 go_wp2
 obtain⟨W1,hW1⟩:∃ W,w.alloc (.cells #[.int .i64 0,.int .i64 1] 171)=W:=⟨_,rfl⟩
 rw [hW1] at hN hL ⊢
 obtain⟨lb,hlb⟩:∃ n,w.heap.size=n:=⟨_,rfl⟩
 rw [hlb] at hL hfl hx ⊢
 clear hW1 hlb
 have l0:=hL.cell (j:=0) rfl
 have l1:=hL.cell (j:=1) rfl
 have k2:=hN.cell 0 2 (by omega) rfl
 have a3:=hN.cell 1 13 (by omega) rfl
 have a4:=hN.cell 1 14 (by omega) rfl
 have hlt:=hL.lt
 have e0:=cell_grown (a:=⟨lb,0,none⟩) hlt l0
 have e1:=cell_grown (a:=⟨lb,1,none⟩) hlt l1
 have e2:=cell_grown (a:=⟨Bk 0,2,none⟩) (hN.lt 0 (by omega)) k2
 have e3:=cell_grown (a:=⟨Bk 1,13,none⟩) (hN.lt 1 (by omega)) a3
 have e4:=cell_grown (a:=⟨Bk 1,14,none⟩) (hN.lt 1 (by omega)) a4
 clear l0 l1 k2 a3 a4
 have HN:Hid (FM x w0 Bk (.slice (some ⟨b,off,none⟩) 1 q) (VS c sp A ⟨s0,vf0,vt0,-1,-1,h0,b0⟩ C y0 y1 m0 m1) W1):=hN
 have HL:Hid (Blk 171 W1 lb [.int .i64 0,.int .i64 1]):=hL
 clear hN hL
 go_quiet_grown (first | (go_at_call 193;refine Calls.grown_of (QdJ _ 0 1 rfl _)))
 obtain⟨W2,hW2⟩:∃ W,Go.Sort.grow (W1.drewN nq) osq=W:=⟨_,rfl⟩
 have hg2:Below W1.heap.size W1 W2:=Grew.below ⟨nq,osq,hW2.symm⟩
 have hM2:FM x w0 Bk (.slice (some ⟨b,off,none⟩) 1 q) (VS c sp A ⟨s0,vf0,vt0,-1,-1,h0,b0⟩ C y0 y1 m0 m1) W2:=HN.out.go (by omega) hg2
 have hL2:Blk 171 W2 lb [.int .i64 0,.int .i64 1]:=HL.out.go hg2
 show Exit.then _ _ Exit.normal _ (Go.Sort.grow (W1.drewN nq) osq)
 rw [hW2]
 clear hW2 hg2 e0 e1 e2 e3 e4 HN HL
 have l0:=hL2.cell (j:=0) rfl
 have l1:=hL2.cell (j:=1) rfl
 have k2:=hM2.cell 0 2 (by omega) rfl
 have a3:=hM2.cell 1 13 (by omega) rfl
 have a4:=hM2.cell 1 14 (by omega) rfl
 have f3:=hM2.frozen 1 13 (by omega)
 have f4:=hM2.frozen 1 14 (by omega)
 have d1:Bk 0≠Bk 1:=HP.out.ne (by omega) (by omega) (by omega)
 have d2:lb≠Bk 1:=by omega
 have HM3:Hid (FM x w0 Bk (.slice (some ⟨b,off,none⟩) 1 q) (VS c sp A ⟨s0,vf0,vt0,0,1,h0,b0⟩ C y0 y1 m0 m1) ((W2.setCell ⟨Bk 1,13,none⟩ (.int .i64 0)).setCell ⟨Bk 1,14,none⟩ (.int .i64 1))):=(hM2.setN HP.out 13 _).setN HP.out 14 _
 clear hM2 hL2
 go_wp2
 go_big_region_o
 go_wp2
 exact bodyPost_end (results_none rfl _ _ _) rfl ⟨rfl,HM3.out.drew⟩
end
def A0:ND:=⟨0,-1,-1,-1,-1,-1,0⟩
def B0:ND:=⟨0,-1,-1,-1,-1,-1,1⟩
def C0:ND:=⟨0,-1,-1,-1,-1,-2,0⟩
def A1:ND:=⟨1,-1,-1,-1,-1,-1,0⟩
def B1:ND:=⟨0,-1,-1,0,1,-1,1⟩
def A2:ND:=⟨1,-1,-1,1,0,-1,0⟩
def B2:ND:=⟨1,-1,-1,0,1,-1,1⟩
section
variable (x:Nat) (w0:World) (Bk:Nat→Nat) (b off c q:Nat) (sp:Value) (y0 y1 m0 m1:Int)
theorem lead0 (hP:FP x w0 Bk b off c)(w:World)(hM:FM x w0 Bk (.slice (some ⟨b,off,none⟩) 1 q) (VS c sp A0 B0 C0 y0 y1 m0 m1) w):Calls Tryz.prog 163 #[.pointer (some ⟨Bk 0,0,none⟩),.int .i64 0] w fun e w'=>e = .returned (.tuple #[])∧FM x w0 Bk (.slice (some ⟨b,off,none⟩) 1 q) (VS c sp A1 B1 C0 y0 y1 m0 m1) w':=by
 have HP:Hid _:=hP
 have k2:=hM.cell 0 2 (by omega) rfl
 have a0:=hM.cell 1 0 (by omega) rfl
 have f0:=hM.frozen 1 0 (by omega)
 have d1:Bk 0≠Bk 1:=hP.ne (by omega) (by omega) (by omega)
 have HM1:Hid (FM x w0 Bk (.slice (some ⟨b,off,none⟩) 1 q) (VS c sp A1 B0 C0 y0 y1 m0 m1) (w.setCell ⟨Bk 1,0,none⟩ (.int .i64 1))):=hM.setN hP 0 _
 clear hM hP
 go_enter Tryz.func163,Tryz.ntmps163
 go_wp2
 go_loopw [17] (fun i wr=>(i = .int .i64 0∧FM x w0 Bk (.slice (some ⟨b,off,none⟩) 1 q) (VS c sp A1 B0 C0 y0 y1 m0 m1) wr)∨(i = .int .i64 1∧FM x w0 Bk (.slice (some ⟨b,off,none⟩) 1 q) (VS c sp A1 B0 C0 y0 y1 m0 m1) wr)∨(i = .int .i64 2∧FM x w0 Bk (.slice (some ⟨b,off,none⟩) 1 q) (VS c sp A1 B1 C0 y0 y1 m0 m1) wr)∨(i = .int .i64 3∧FM x w0 Bk (.slice (some ⟨b,off,none⟩) 1 q) (VS c sp A1 B1 C0 y0 y1 m0 m1) wr)) (fun i _=>3-(intOf i).toNat)
 case atStart=>exact .inl ⟨rfl,HM1.out⟩
 case round=>
  clear HM1 k2 a0 f0
  rcases hrel with ⟨rfl,hM⟩ | ⟨rfl,hM⟩ | ⟨rfl,hM⟩ | ⟨rfl,hM⟩
  ·have HM:Hid (FM x w0 Bk (.slice (some ⟨b,off,none⟩) 1 q) (VS c sp A1 B0 C0 y0 y1 m0 m1) wr):=hM
   clear hM
   go_wp2
   exact⟨.inr (.inl ⟨rfl,HM.out⟩),by simp [intOf]⟩
  ·have k2:=hM.cell 0 9 (by omega) rfl
   have k3:=hM.cell 11 0 (by omega) rfl
   have e0:=hM.cell 12 2 (by omega) rfl
   have e1:=hM.cell 12 3 (by omega) rfl
   have ht:=QlB x w0 Bk b off c q sp _ _ _ _ _ _ _ wr hM
   have ho:=Qpu x w0 Bk b off c q sp _ _ _ _ _ _ _ HP.out rfl rfl wr hM
   have ht2:Calls Tryz.prog 162 #[.pointer (some ⟨Bk 0,0,none⟩),.int .i64 1] wr fun e w'=>e = .returned (.bool true)∧w'=wr:=ht
   clear hM ht
   go_wp2_with fail
   refine ht2.mono ?_
   rintro e w2 ⟨rfl,rfl⟩
   go_wp2_with fail
   refine ho.mono ?_
   rintro e w3 ⟨rfl,hM3⟩
   have HM3:Hid (FM x w0 Bk (.slice (some ⟨b,off,none⟩) 1 q) (VS c sp A1 B1 C0 y0 y1 m0 m1) w3):=hM3
   clear ho ht2 hM3
   go_wp2
   exact⟨.inr (.inr (.inl ⟨rfl,HM3.out⟩)),by simp [intOf]⟩
  ·have ht:=QgM x w0 Bk b off c q sp _ _ _ _ _ _ _ wr hM
   have ht2:Calls Tryz.prog 162 #[.pointer (some ⟨Bk 0,0,none⟩),.int .i64 2] wr fun e w'=>e = .returned (.bool false)∧w'=wr:=ht
   have HM:Hid (FM x w0 Bk (.slice (some ⟨b,off,none⟩) 1 q) (VS c sp A1 B1 C0 y0 y1 m0 m1) wr):=hM
   clear hM ht
   go_wp2_with fail
   refine ht2.mono ?_
   rintro e w2 ⟨rfl,rfl⟩
   go_wp2
   exact⟨.inr (.inr (.inr ⟨rfl,HM.out⟩)),by simp [intOf]⟩
  ·have HM:Hid (FM x w0 Bk (.slice (some ⟨b,off,none⟩) 1 q) (VS c sp A1 B1 C0 y0 y1 m0 m1) wr):=hM
   clear hM
   go_wp2
   exact bodyPost_end (results_none rfl _ _ _) rfl ⟨rfl,HM.out⟩
theorem lead1 (hP:FP x w0 Bk b off c)(w:World)(hM:FM x w0 Bk (.slice (some ⟨b,off,none⟩) 1 q) (VS c sp A1 B1 C0 y0 y1 m0 m1) w):Calls Tryz.prog 163 #[.pointer (some ⟨Bk 0,0,none⟩),.int .i64 1] w fun e w'=>e = .returned (.tuple #[])∧FM x w0 Bk (.slice (some ⟨b,off,none⟩) 1 q) (VS c sp A2 B2 C0 y0 y1 m0 m1) w':=by
 have HP:Hid _:=hP
 have k2:=hM.cell 0 2 (by omega) rfl
 have a0:=hM.cell 1 10 (by omega) rfl
 have f0:=hM.frozen 1 10 (by omega)
 have d1:Bk 0≠Bk 1:=hP.ne (by omega) (by omega) (by omega)
 have HM1:Hid (FM x w0 Bk (.slice (some ⟨b,off,none⟩) 1 q) (VS c sp A1 B2 C0 y0 y1 m0 m1) (w.setCell ⟨Bk 1,10,none⟩ (.int .i64 1))):=hM.setN hP 10 _
 clear hM hP
 go_enter Tryz.func163,Tryz.ntmps163
 go_wp2
 go_loopw [17] (fun i wr=>(i = .int .i64 0∧FM x w0 Bk (.slice (some ⟨b,off,none⟩) 1 q) (VS c sp A1 B2 C0 y0 y1 m0 m1) wr)∨(i = .int .i64 1∧FM x w0 Bk (.slice (some ⟨b,off,none⟩) 1 q) (VS c sp A2 B2 C0 y0 y1 m0 m1) wr)∨(i = .int .i64 2∧FM x w0 Bk (.slice (some ⟨b,off,none⟩) 1 q) (VS c sp A2 B2 C0 y0 y1 m0 m1) wr)∨(i = .int .i64 3∧FM x w0 Bk (.slice (some ⟨b,off,none⟩) 1 q) (VS c sp A2 B2 C0 y0 y1 m0 m1) wr)) (fun i _=>3-(intOf i).toNat)
 case atStart=>exact .inl ⟨rfl,HM1.out⟩
 case round=>
  clear HM1 k2 a0 f0
  rcases hrel with ⟨rfl,hM⟩ | ⟨rfl,hM⟩ | ⟨rfl,hM⟩ | ⟨rfl,hM⟩
  ·have k2:=hM.cell 0 9 (by omega) rfl
   have k3:=hM.cell 11 1 (by omega) rfl
   have e0:=hM.cell 13 0 (by omega) rfl
   have e1:=hM.cell 13 1 (by omega) rfl
   have ht:=QlC x w0 Bk b off c q sp _ _ _ _ _ _ _ wr hM
   have ho:=Qpv x w0 Bk b off c q sp _ _ _ _ _ _ _ HP.out rfl rfl wr hM
   have ht2:Calls Tryz.prog 162 #[.pointer (some ⟨Bk 0,0,none⟩),.int .i64 0] wr fun e w'=>e = .returned (.bool true)∧w'=wr:=ht
   clear hM ht
   go_wp2_with fail
   refine ht2.mono ?_
   rintro e w2 ⟨rfl,rfl⟩
   go_wp2_with fail
   refine ho.mono ?_
   rintro e w3 ⟨rfl,hM3⟩
   have HM3:Hid (FM x w0 Bk (.slice (some ⟨b,off,none⟩) 1 q) (VS c sp A2 B2 C0 y0 y1 m0 m1) w3):=hM3
   clear ho ht2 hM3
   go_wp2
   exact⟨.inr (.inl ⟨rfl,HM3.out⟩),by simp [intOf]⟩
  ·have HM:Hid (FM x w0 Bk (.slice (some ⟨b,off,none⟩) 1 q) (VS c sp A2 B2 C0 y0 y1 m0 m1) wr):=hM
   clear hM
   go_wp2
   exact⟨.inr (.inr (.inl ⟨rfl,HM.out⟩)),by simp [intOf]⟩
  ·have ht:=QgM x w0 Bk b off c q sp _ _ _ _ _ _ _ wr hM
   have ht2:Calls Tryz.prog 162 #[.pointer (some ⟨Bk 0,0,none⟩),.int .i64 2] wr fun e w'=>e = .returned (.bool false)∧w'=wr:=ht
   have HM:Hid (FM x w0 Bk (.slice (some ⟨b,off,none⟩) 1 q) (VS c sp A2 B2 C0 y0 y1 m0 m1) wr):=hM
   clear hM ht
   go_wp2_with fail
   refine ht2.mono ?_
   rintro e w2 ⟨rfl,rfl⟩
   go_wp2
   exact⟨.inr (.inr (.inr ⟨rfl,HM.out⟩)),by simp [intOf]⟩
  ·have HM:Hid (FM x w0 Bk (.slice (some ⟨b,off,none⟩) 1 q) (VS c sp A2 B2 C0 y0 y1 m0 m1) wr):=hM
   clear hM
   go_wp2
   exact bodyPost_end (results_none rfl _ _ _) rfl ⟨rfl,HM.out⟩
end
end Go.Proofs.YtalflecmadacaaaGreat
