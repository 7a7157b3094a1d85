import Derived.Test.YtalflecmadacaaaGreatZBI
import Derived.Test.YtalflecmadacaaaGreatZAA
set_option maxRecDepth 100000
set_option maxHeartbeats 8000000
namespace Go.Proofs.YtalflecmadacaaaGreat
open Go Go.Proofs Go.RowKit
theorem QkL {w W':World}{a0 a1 b0 b1:Value}{ta tb:TypeId}(h:Grew ((w.alloc (.cells #[a0,a1] ta)).alloc (.cells #[b0,b1] tb)) W'):W'.cell? ⟨w.heap.size,0,none⟩=some a0∧W'.cell? ⟨w.heap.size,1,none⟩=some a1∧W'.cell? ⟨w.heap.size+1,0,none⟩=some b0∧W'.cell? ⟨w.heap.size+1,1,none⟩=some b1:=by
 have h1:Blk ta (w.alloc (.cells #[a0,a1] ta)) w.heap.size [a0,a1]:=heap_alloc_new w _
 have h2:Blk tb ((w.alloc (.cells #[a0,a1] ta)).alloc (.cells #[b0,b1] tb)) (w.alloc (.cells #[a0,a1] ta)).heap.size [b0,b1]:=heap_alloc_new _ _
 have h3:=(h1.go (YD.alloc YA _:Below _ _ ((w.alloc (.cells #[a0,a1] ta)).alloc (.cells #[b0,b1] tb)))).go h.below
 have h4:=h2.go h.below
 have e:(w.alloc (.cells #[a0,a1] ta)).heap.size=w.heap.size+1:=by simp
 rw [e] at h4
 exact⟨h3.cell (j:=0) rfl,h3.cell (j:=1) rfl,h4.cell (j:=0) rfl,h4.cell (j:=1) rfl⟩
theorem QdO (f:Value)(a b:Int)(ha:(a != -1)=true)(w:World):Calls Tryz.prog 193 #[f,.agg #[.int .i64 a,.int .i64 b],.agg #[.int .i64 (-1),.int .i64 (-1)]] w fun e w'=>e = .returned (.bool true)∧Grew w w':=by
 have hmix:=mixed
 have hg0:Grew w ((w.alloc (.cells #[.int .i64 a,.int .i64 b] 171)).alloc (.cells #[.int .i64 (-1),.int .i64 (-1)] 171)):=((Grew.refl w).alloc _).alloc _
 obtain⟨x0,x1,y0,y1⟩:=QkL (w:=w) (a0:=.int .i64 a) (a1:=.int .i64 b) (b0:=.int .i64 (-1)) (b1:=.int .i64 (-1)) (ta:=171) (tb:=171) (Grew.refl _)
 have hsz:((w.alloc (.cells #[.int .i64 a,.int .i64 b] 171)).alloc (.cells #[.int .i64 (-1),.int .i64 (-1)] 171)).heap.size=w.heap.size+1+1:=by simp
 go_enter Tryz.func193,Tryz.ntmps193
 go_wp2
 obtain⟨W1,hW1⟩:∃ W,(w.alloc (.cells #[.int .i64 a,.int .i64 b] 171)).alloc (.cells #[.int .i64 (-1),.int .i64 (-1)] 171)=W:=⟨_,rfl⟩
 rw [hW1] at x0 x1 y0 y1 hsz hg0 ⊢
 clear hW1
 have g0:=cell_grown (a:=⟨w.heap.size,0,none⟩) (by show w.heap.size<_;omega) x0
 have g1:=cell_grown (a:=⟨w.heap.size,1,none⟩) (by show w.heap.size<_;omega) x1
 have g2:=cell_grown (a:=⟨w.heap.size+1,0,none⟩) (by show w.heap.size+1<_;omega) y0
 have g3:=cell_grown (a:=⟨w.heap.size+1,1,none⟩) (by show w.heap.size+1<_;omega) y1
 clear x0 x1 y0 y1 hsz
 go_quiet_grown (first | (go_at_call 175;refine Calls.grown_of (QaQ _ _ _)))
 go_wp2
 go_ret
 exact⟨rfl,hg0.trans ⟨nq,osq,rfl⟩⟩
section
variable (x:Nat) (w0:World) (Bk:Nat→Nat) (b off c q:Nat) (sp:Value) (A B C:ND) (y0 y1 m0 m1:Int)
theorem QpP (hP:FP x w0 Bk b off c)(hA1:A.nf = -1)(hA2:A.nt = -1)(w:World)(hM:FM x w0 Bk (.slice (some ⟨b,off,none⟩) 1 q) (VS c sp A B C y0 y1 m0 m1) w):Calls Tryz.prog 174 #[.pointer (some ⟨Bk 0,0,none⟩),.int .i64 0,.agg #[.int .i64 1,.int .i64 0]] w fun e w'=>e = .returned (.tuple #[])∧FM x w0 Bk (.slice (some ⟨b,off,none⟩) 1 q) (VS c sp { A with nf:=1,nt:=0 } B C y0 y1 m0 m1) w':=by
 have hmix:=mixed
 have hx:x≤w.heap.size:=by have h1:=hM.lt 0 (by omega);have h2:=hP.lo 0 (by omega);omega
 have hal:Below w.heap.size w (w.alloc (.cells #[.int .i64 1,.int .i64 0] 171)):=YD.alloc YA _
 have hL:Blk 171 (w.alloc (.cells #[.int .i64 1,.int .i64 0] 171)) w.heap.size [.int .i64 1,.int .i64 0]:=heap_alloc_new w _
 have hN:=hM.go hx hal
 have hfl:=hM.lt 1 (by omega)
 obtain⟨s0,vf0,vt0,nf0,nt0,h0,b0⟩:=A
 simp only at hA1 hA2
 subst hA1 hA2
 have HP:Hid _:=hP
 clear hM hP hal
 go_enter Tryz.func174,Tryz.ntmps174
 go_wp2
 obtain⟨W1,hW1⟩:∃ W,w.alloc (.cells #[.int .i64 1,.int .i64 0] 171)=W:=⟨_,rfl⟩
 rw [hW1] at hN hL ⊢
 obtain⟨lb,hlb⟩:∃ n,w.heap.size=n:=⟨_,rfl⟩
 rw [hlb] at hL hfl hx ⊢
 clear hW1 hlb
 have l0:=hL.cell (j:=0) rfl
 have l1:=hL.cell (j:=1) rfl
 have k2:=hN.cell 0 2 (by omega) rfl
 have a3:=hN.cell 1 3 (by omega) rfl
 have a4:=hN.cell 1 4 (by omega) rfl
 have hlt:=hL.lt
 have e0:=cell_grown (a:=⟨lb,0,none⟩) hlt l0
 have e1:=cell_grown (a:=⟨lb,1,none⟩) hlt l1
 have e2:=cell_grown (a:=⟨Bk 0,2,none⟩) (hN.lt 0 (by omega)) k2
 have e3:=cell_grown (a:=⟨Bk 1,3,none⟩) (hN.lt 1 (by omega)) a3
 have e4:=cell_grown (a:=⟨Bk 1,4,none⟩) (hN.lt 1 (by omega)) a4
 clear l0 l1 k2 a3 a4
 have HN:Hid (FM x w0 Bk (.slice (some ⟨b,off,none⟩) 1 q) (VS c sp ⟨s0,vf0,vt0,-1,-1,h0,b0⟩ B C y0 y1 m0 m1) W1):=hN
 have HL:Hid (Blk 171 W1 lb [.int .i64 1,.int .i64 0]):=hL
 clear hN hL
 go_quiet_grown (first | (go_at_call 193;refine Calls.grown_of (QdO _ 1 0 rfl _)))
 obtain⟨W2,hW2⟩:∃ W,Go.Sort.grow (W1.drewN nq) osq=W:=⟨_,rfl⟩
 have hg2:Below W1.heap.size W1 W2:=Grew.below ⟨nq,osq,hW2.symm⟩
 have hM2:FM x w0 Bk (.slice (some ⟨b,off,none⟩) 1 q) (VS c sp ⟨s0,vf0,vt0,-1,-1,h0,b0⟩ B C y0 y1 m0 m1) W2:=HN.out.go (by omega) hg2
 have hL2:Blk 171 W2 lb [.int .i64 1,.int .i64 0]:=HL.out.go hg2
 show Exit.then _ _ Exit.normal _ (Go.Sort.grow (W1.drewN nq) osq)
 rw [hW2]
 clear hW2 hg2 e0 e1 e2 e3 e4 HN HL
 have l0:=hL2.cell (j:=0) rfl
 have l1:=hL2.cell (j:=1) rfl
 have k2:=hM2.cell 0 2 (by omega) rfl
 have a3:=hM2.cell 1 3 (by omega) rfl
 have a4:=hM2.cell 1 4 (by omega) rfl
 have f3:=hM2.frozen 1 3 (by omega)
 have f4:=hM2.frozen 1 4 (by omega)
 have d1:Bk 0≠Bk 1:=HP.out.ne (by omega) (by omega) (by omega)
 have d2:lb≠Bk 1:=by omega
 have HM3:Hid (FM x w0 Bk (.slice (some ⟨b,off,none⟩) 1 q) (VS c sp ⟨s0,vf0,vt0,1,0,h0,b0⟩ B C y0 y1 m0 m1) ((W2.setCell ⟨Bk 1,3,none⟩ (.int .i64 1)).setCell ⟨Bk 1,4,none⟩ (.int .i64 0))):=(hM2.setN HP.out 3 _).setN HP.out 4 _
 clear hM2 hL2
 go_wp2
 go_big_region_o
 go_wp2
 exact bodyPost_end (results_none rfl _ _ _) rfl ⟨rfl,HM3.out.drew⟩
theorem QpO (hP:FP x w0 Bk b off c)(hA1:B.nf = -1)(hA2:B.nt = -1)(w:World)(hM:FM x w0 Bk (.slice (some ⟨b,off,none⟩) 1 q) (VS c sp A B C y0 y1 m0 m1) w):Calls Tryz.prog 174 #[.pointer (some ⟨Bk 0,0,none⟩),.int .i64 1,.agg #[.int .i64 0,.int .i64 1]] w fun e w'=>e = .returned (.tuple #[])∧FM x w0 Bk (.slice (some ⟨b,off,none⟩) 1 q) (VS c sp A { B with nf:=0,nt:=1 } C y0 y1 m0 m1) w':=by
 have hmix:=mixed
 have hx:x≤w.heap.size:=by have h1:=hM.lt 0 (by omega);have h2:=hP.lo 0 (by omega);omega
 have hal:Below w.heap.size w (w.alloc (.cells #[.int .i64 0,.int .i64 1] 171)):=YD.alloc YA _
 have hL:Blk 171 (w.alloc (.cells #[.int .i64 0,.int .i64 1] 171)) w.heap.size [.int .i64 0,.int .i64 1]:=heap_alloc_new w _
 have hN:=hM.go hx hal
 have hfl:=hM.lt 1 (by omega)
 obtain⟨s0,vf0,vt0,nf0,nt0,h0,b0⟩:=B
 simp only at hA1 hA2
 subst hA1 hA2
 have HP:Hid _:=hP
 clear hM hP hal
 go_enter Tryz.func174,Tryz.ntmps174
 go_wp2
 obtain⟨W1,hW1⟩:∃ W,w.alloc (.cells #[.int .i64 0,.int .i64 1] 171)=W:=⟨_,rfl⟩
 rw [hW1] at hN hL ⊢
 obtain⟨lb,hlb⟩:∃ n,w.heap.size=n:=⟨_,rfl⟩
 rw [hlb] at hL hfl hx ⊢
 clear hW1 hlb
 have l0:=hL.cell (j:=0) rfl
 have l1:=hL.cell (j:=1) rfl
 have k2:=hN.cell 0 2 (by omega) rfl
 have a3:=hN.cell 1 13 (by omega) rfl
 have a4:=hN.cell 1 14 (by omega) rfl
 have hlt:=hL.lt
 have e0:=cell_grown (a:=⟨lb,0,none⟩) hlt l0
 have e1:=cell_grown (a:=⟨lb,1,none⟩) hlt l1
 have e2:=cell_grown (a:=⟨Bk 0,2,none⟩) (hN.lt 0 (by omega)) k2
 have e3:=cell_grown (a:=⟨Bk 1,13,none⟩) (hN.lt 1 (by omega)) a3
 have e4:=cell_grown (a:=⟨Bk 1,14,none⟩) (hN.lt 1 (by omega)) a4
 clear l0 l1 k2 a3 a4
 have HN:Hid (FM x w0 Bk (.slice (some ⟨b,off,none⟩) 1 q) (VS c sp A ⟨s0,vf0,vt0,-1,-1,h0,b0⟩ C y0 y1 m0 m1) W1):=hN
 have HL:Hid (Blk 171 W1 lb [.int .i64 0,.int .i64 1]):=hL
 clear hN hL
 go_quiet_grown (first | (go_at_call 193;refine Calls.grown_of (QdO _ 0 1 rfl _)))
 obtain⟨W2,hW2⟩:∃ W,Go.Sort.grow (W1.drewN nq) osq=W:=⟨_,rfl⟩
 have hg2:Below W1.heap.size W1 W2:=Grew.below ⟨nq,osq,hW2.symm⟩
 have hM2:FM x w0 Bk (.slice (some ⟨b,off,none⟩) 1 q) (VS c sp A ⟨s0,vf0,vt0,-1,-1,h0,b0⟩ C y0 y1 m0 m1) W2:=HN.out.go (by omega) hg2
 have hL2:Blk 171 W2 lb [.int .i64 0,.int .i64 1]:=HL.out.go hg2
 show Exit.then _ _ Exit.normal _ (Go.Sort.grow (W1.drewN nq) osq)
 rw [hW2]
 clear hW2 hg2 e0 e1 e2 e3 e4 HN HL
 have l0:=hL2.cell (j:=0) rfl
 have l1:=hL2.cell (j:=1) rfl
 have k2:=hM2.cell 0 2 (by omega) rfl
 have a3:=hM2.cell 1 13 (by omega) rfl
 have a4:=hM2.cell 1 14 (by omega) rfl
 have f3:=hM2.frozen 1 13 (by omega)
 have f4:=hM2.frozen 1 14 (by omega)
 have d1:Bk 0≠Bk 1:=HP.out.ne (by omega) (by omega) (by omega)
 have d2:lb≠Bk 1:=by omega
 have HM3:Hid (FM x w0 Bk (.slice (some ⟨b,off,none⟩) 1 q) (VS c sp A ⟨s0,vf0,vt0,0,1,h0,b0⟩ C y0 y1 m0 m1) ((W2.setCell ⟨Bk 1,13,none⟩ (.int .i64 0)).setCell ⟨Bk 1,14,none⟩ (.int .i64 1))):=(hM2.setN HP.out 13 _).setN HP.out 14 _
 clear hM2 hL2
 go_wp2
 go_big_region_o
 go_wp2
 exact bodyPost_end (results_none rfl _ _ _) rfl ⟨rfl,HM3.out.drew⟩
end
def A0:ND:=⟨0,-1,-1,-1,-1,-1,0⟩
def B0:ND:=⟨0,-1,-1,-1,-1,-1,1⟩
def C0:ND:=⟨0,-1,-1,-1,-1,-2,0⟩
def A1:ND:=⟨1,-1,-1,-1,-1,-1,0⟩
def B1:ND:=⟨0,-1,-1,0,1,-1,1⟩
def A2:ND:=⟨1,-1,-1,1,0,-1,0⟩
def B2:ND:=⟨1,-1,-1,0,1,-1,1⟩
section
variable (x:Nat) (w0:World) (Bk:Nat→Nat) (b off c q:Nat) (sp:Value) (y0 y1 m0 m1:Int)
theorem lead0 (hP:FP x w0 Bk b off c)(w:World)(hM:FM x w0 Bk (.slice (some ⟨b,off,none⟩) 1 q) (VS c sp A0 B0 C0 y0 y1 m0 m1) w):Calls Tryz.prog 163 #[.pointer (some ⟨Bk 0,0,none⟩),.int .i64 0] w fun e w'=>e = .returned (.tuple #[])∧FM x w0 Bk (.slice (some ⟨b,off,none⟩) 1 q) (VS c sp A1 B1 C0 y0 y1 m0 m1) w':=by
 have HP:Hid _:=hP
 have k2:=hM.cell 0 2 (by omega) rfl
 have a0:=hM.cell 1 0 (by omega) rfl
 have f0:=hM.frozen 1 0 (by omega)
 have d1:Bk 0≠Bk 1:=hP.ne (by omega) (by omega) (by omega)
 have HM1:Hid (FM x w0 Bk (.slice (some ⟨b,off,none⟩) 1 q) (VS c sp A1 B0 C0 y0 y1 m0 m1) (w.setCell ⟨Bk 1,0,none⟩ (.int .i64 1))):=hM.setN hP 0 _
 clear hM hP
 go_enter Tryz.func163,Tryz.ntmps163
 go_wp2
 go_loopw [17] (fun i wr=>(i = .int .i64 0∧FM x w0 Bk (.slice (some ⟨b,off,none⟩) 1 q) (VS c sp A1 B0 C0 y0 y1 m0 m1) wr)∨(i = .int .i64 1∧FM x w0 Bk (.slice (some ⟨b,off,none⟩) 1 q) (VS c sp A1 B0 C0 y0 y1 m0 m1) wr)∨(i = .int .i64 2∧FM x w0 Bk (.slice (some ⟨b,off,none⟩) 1 q) (VS c sp A1 B1 C0 y0 y1 m0 m1) wr)∨(i = .int .i64 3∧FM x w0 Bk (.slice (some ⟨b,off,none⟩) 1 q) (VS c sp A1 B1 C0 y0 y1 m0 m1) wr)) (fun i _=>3-(intOf i).toNat)
 case atStart=>exact .inl ⟨rfl,HM1.out⟩
 case round=>
  clear HM1 k2 a0 f0
  rcases hrel with ⟨rfl,hM⟩ | ⟨rfl,hM⟩ | ⟨rfl,hM⟩ | ⟨rfl,hM⟩
  ·have HM:Hid (FM x w0 Bk (.slice (some ⟨b,off,none⟩) 1 q) (VS c sp A1 B0 C0 y0 y1 m0 m1) wr):=hM
   clear hM
   go_wp2
   exact⟨.inr (.inl ⟨rfl,HM.out⟩),by simp [intOf]⟩
  ·have k2:=hM.cell 0 9 (by omega) rfl
   have k3:=hM.cell 11 0 (by omega) rfl
   have e0:=hM.cell 12 2 (by omega) rfl
   have e1:=hM.cell 12 3 (by omega) rfl
   have ht:=Qmf x w0 Bk b off c q sp _ _ _ _ _ _ _ wr hM
   have ho:=QpO x w0 Bk b off c q sp _ _ _ _ _ _ _ HP.out rfl rfl wr hM
   have ht2:Calls Tryz.prog 162 #[.pointer (some ⟨Bk 0,0,none⟩),.int .i64 1] wr fun e w'=>e = .returned (.bool true)∧w'=wr:=ht
   clear hM ht
   go_wp2_with fail
   refine ht2.mono ?_
   rintro e w2 ⟨rfl,rfl⟩
   go_wp2_with fail
   refine ho.mono ?_
   rintro e w3 ⟨rfl,hM3⟩
   have HM3:Hid (FM x w0 Bk (.slice (some ⟨b,off,none⟩) 1 q) (VS c sp A1 B1 C0 y0 y1 m0 m1) w3):=hM3
   clear ho ht2 hM3
   go_wp2
   exact⟨.inr (.inr (.inl ⟨rfl,HM3.out⟩)),by simp [intOf]⟩
  ·have ht:=Qg4 x w0 Bk b off c q sp _ _ _ _ _ _ _ wr hM
   have ht2:Calls Tryz.prog 162 #[.pointer (some ⟨Bk 0,0,none⟩),.int .i64 2] wr fun e w'=>e = .returned (.bool false)∧w'=wr:=ht
   have HM:Hid (FM x w0 Bk (.slice (some ⟨b,off,none⟩) 1 q) (VS c sp A1 B1 C0 y0 y1 m0 m1) wr):=hM
   clear hM ht
   go_wp2_with fail
   refine ht2.mono ?_
   rintro e w2 ⟨rfl,rfl⟩
   go_wp2
   exact⟨.inr (.inr (.inr ⟨rfl,HM.out⟩)),by simp [intOf]⟩
  ·have HM:Hid (FM x w0 Bk (.slice (some ⟨b,off,none⟩) 1 q) (VS c sp A1 B1 C0 y0 y1 m0 m1) wr):=hM
   clear hM
   go_wp2
   exact bodyPost_end (results_none rfl _ _ _) rfl ⟨rfl,HM.out⟩
theorem lead1 (hP:FP x w0 Bk b off c)(w:World)(hM:FM x w0 Bk (.slice (some ⟨b,off,none⟩) 1 q) (VS c sp A1 B1 C0 y0 y1 m0 m1) w):Calls Tryz.prog 163 #[.pointer (some ⟨Bk 0,0,none⟩),.int .i64 1] w fun e w'=>e = .returned (.tuple #[])∧FM x w0 Bk (.slice (some ⟨b,off,none⟩) 1 q) (VS c sp A2 B2 C0 y0 y1 m0 m1) w':=by
 have HP:Hid _:=hP
 have k2:=hM.cell 0 2 (by omega) rfl
 have a0:=hM.cell 1 10 (by omega) rfl
 have f0:=hM.frozen 1 10 (by omega)
 have d1:Bk 0≠Bk 1:=hP.ne (by omega) (by omega) (by omega)
 have HM1:Hid (FM x w0 Bk (.slice (some ⟨b,off,none⟩) 1 q) (VS c sp A1 B2 C0 y0 y1 m0 m1) (w.setCell ⟨Bk 1,10,none⟩ (.int .i64 1))):=hM.setN hP 10 _
 clear hM hP
 go_enter Tryz.func163,Tryz.ntmps163
 go_wp2
 go_loopw [17] (fun i wr=>(i = .int .i64 0∧FM x w0 Bk (.slice (some ⟨b,off,none⟩) 1 q) (VS c sp A1 B2 C0 y0 y1 m0 m1) wr)∨(i = .int .i64 1∧FM x w0 Bk (.slice (some ⟨b,off,none⟩) 1 q) (VS c sp A2 B2 C0 y0 y1 m0 m1) wr)∨(i = .int .i64 2∧FM x w0 Bk (.slice (some ⟨b,off,none⟩) 1 q) (VS c sp A2 B2 C0 y0 y1 m0 m1) wr)∨(i = .int .i64 3∧FM x w0 Bk (.slice (some ⟨b,off,none⟩) 1 q) (VS c sp A2 B2 C0 y0 y1 m0 m1) wr)) (fun i _=>3-(intOf i).toNat)
 case atStart=>exact .inl ⟨rfl,HM1.out⟩
 case round=>
  clear HM1 k2 a0 f0
  rcases hrel with ⟨rfl,hM⟩ | ⟨rfl,hM⟩ | ⟨rfl,hM⟩ | ⟨rfl,hM⟩
  ·have k2:=hM.cell 0 9 (by omega) rfl
   have k3:=hM.cell 11 1 (by omega) rfl
   have e0:=hM.cell 13 0 (by omega) rfl
   have e1:=hM.cell 13 1 (by omega) rfl
   have ht:=Qmg x w0 Bk b off c q sp _ _ _ _ _ _ _ wr hM
   have ho:=QpP x w0 Bk b off c q sp _ _ _ _ _ _ _ HP.out rfl rfl wr hM
   have ht2:Calls Tryz.prog 162 #[.pointer (some ⟨Bk 0,0,none⟩),.int .i64 0] wr fun e w'=>e = .returned (.bool true)∧w'=wr:=ht
   clear hM ht
   go_wp2_with fail
   refine ht2.mono ?_
   rintro e w2 ⟨rfl,rfl⟩
   go_wp2_with fail
   refine ho.mono ?_
   rintro e w3 ⟨rfl,hM3⟩
   have HM3:Hid (FM x w0 Bk (.slice (some ⟨b,off,none⟩) 1 q) (VS c sp A2 B2 C0 y0 y1 m0 m1) w3):=hM3
   clear ho ht2 hM3
   go_wp2
   exact⟨.inr (.inl ⟨rfl,HM3.out⟩),by simp [intOf]⟩
  ·have HM:Hid (FM x w0 Bk (.slice (some ⟨b,off,none⟩) 1 q) (VS c sp A2 B2 C0 y0 y1 m0 m1) wr):=hM
   clear hM
   go_wp2
   exact⟨.inr (.inr (.inl ⟨rfl,HM.out⟩)),by simp [intOf]⟩
  ·have ht:=Qg4 x w0 Bk b off c q sp _ _ _ _ _ _ _ wr hM
   have ht2:Calls Tryz.prog 162 #[.pointer (some ⟨Bk 0,0,none⟩),.int .i64 2] wr fun e w'=>e = .returned (.bool false)∧w'=wr:=ht
   have HM:Hid (FM x w0 Bk (.slice (some ⟨b,off,none⟩) 1 q) (VS c sp A2 B2 C0 y0 y1 m0 m1) wr):=hM
   clear hM ht
   go_wp2_with fail
   refine ht2.mono ?_
   rintro e w2 ⟨rfl,rfl⟩
   go_wp2
   exact⟨.inr (.inr (.inr ⟨rfl,HM.out⟩)),by simp [intOf]⟩
  ·have HM:Hid (FM x w0 Bk (.slice (some ⟨b,off,none⟩) 1 q) (VS c sp A2 B2 C0 y0 y1 m0 m1) wr):=hM
   clear hM
   go_wp2
   exact bodyPost_end (results_none rfl _ _ _) rfl ⟨rfl,HM.out⟩
end
section
variable (x:Nat) (w0:World) (Bk:Nat→Nat) (b off c q:Nat) (sp:Value)
theorem Qls (hP:FP x w0 Bk b off c)(w:World)(hM:FM x w0 Bk (.slice (some ⟨b,off,none⟩) 1 q) (VS c sp nA nB nC (-(c:Int)) (-(c:Int)) (-1) (-1)) w):Calls Tryz.prog 142 #[.pointer (some ⟨Bk 0,0,none⟩)] w fun e w'=>e = .returned (.tuple #[])∧FM x w0 Bk (.slice (some ⟨b,off,none⟩) 1 q) (VS c sp A2 B2 C0 (-(c:Int)) (-(c:Int)) (-1) (-1)) w':=by
 have hmix:=mixed
 have HP:Hid (FP x w0 Bk b off c):=hP
 have k2:=hM.cell 0 2 (by omega) rfl
 have d1:Bk 0≠Bk 1:=hP.ne (by omega) (by omega) (by omega)
 have HM:Hid (FM x w0 Bk (.slice (some ⟨b,off,none⟩) 1 q) (VS c sp nA nB nC (-(c:Int)) (-(c:Int)) (-1) (-1)) w):=hM
 clear hM hP
 go_enter Tryz.func142,Tryz.ntmps142
 go_wp2
 go_loopw [9] (fun i wr=>(i = .int .i64 0∧FM x w0 Bk (.slice (some ⟨b,off,none⟩) 1 q) (VS c sp nA nB nC (-(c:Int)) (-(c:Int)) (-1) (-1)) wr)∨(i = .int .i64 1∧FM x w0 Bk (.slice (some ⟨b,off,none⟩) 1 q) (VS c sp A0 nB nC (-(c:Int)) (-(c:Int)) (-1) (-1)) wr)∨(i = .int .i64 2∧FM x w0 Bk (.slice (some ⟨b,off,none⟩) 1 q) (VS c sp A0 B0 nC (-(c:Int)) (-(c:Int)) (-1) (-1)) wr)∨(i = .int .i64 3∧FM x w0 Bk (.slice (some ⟨b,off,none⟩) 1 q) (VS c sp A0 B0 C0 (-(c:Int)) (-(c:Int)) (-1) (-1)) wr)) (fun i _=>3-(intOf i).toNat)
 case atStart=>exact .inl ⟨rfl,HM.out⟩
 case round=>
  clear HM k2
  rcases hrel with ⟨rfl,hM⟩ | ⟨rfl,hM⟩ | ⟨rfl,hM⟩ | ⟨rfl,hM⟩
  ·have k2:=hM.cell 0 2 (by omega) rfl
   have hxw:x≤wr.heap.size:=by have h1:=hM.lt 0 (by omega);have h2:=HP.out.lo 0 (by omega);omega
   have HM:Hid (FM x w0 Bk (.slice (some ⟨b,off,none⟩) 1 q) (VS c sp nA nB nC (-(c:Int)) (-(c:Int)) (-1) (-1)) wr):=hM
   clear hM
   go_wp2
   refine wp_region_held_drew (S:=(fun w':World=>w'.cell? ⟨Bk 0,2,none⟩=some (.slice (some ⟨Bk 1,0,none⟩) 3 3))) (by kernel_rfl) k2 (fun hHeld=>?_)
   refine tH 0 ?_
   try simp only [z4]
   refine tH 1 ?_
   refine tH 2 ?_
   refine tH 3 ?_
   refine tH 4 ?_
   refine tH 5 ?_
   refine tH 6 ?_
   simp only [z1,z2,z3,z4,z5,z6]
   refine tH 7 ?_
   refine tH 8 ?_
   refine tH 9 ?_
   refine tH 10 ?_
   refine tH 11 ?_
   simp only [z1,z2,z3,z4,z5,z6]
   refine tH 12 ?_
   refine tH 13 ?_
   refine tH 14 ?_
   simp only [z1,z2,z3,z4,z5,z6]
   refine wpAnyH_ready (rs:=[15]) (by kernel_rfl) (by simp) ?_
   refine AllReadyH.cons rfl (fun K hK=>?_) AllReadyH.nil
   go_simp
   refine (QaP wr.drew).mono ?_
   rintro e w2 ⟨rfl,hb2⟩
   have hM2:=HM.out.drew.go hxw hb2
   have hb2s:=hb2.size
   refine hK.out _ _ (hM2.cell 0 2 (by omega) rfl) (fun hHeld2=>?_)
   clear hK K hHeld
   try simp only [Act.put,z4,z5,z6]
   refine wpAnyH_ready (rs:=[16]) (by kernel_rfl) (by simp) ?_
   refine AllReadyH.cons rfl (fun K hK=>?_) AllReadyH.nil
   go_simp
   refine (QaP w2).mono ?_
   rintro e w3 ⟨rfl,hb3⟩
   have hxw2:x≤w2.heap.size:=by have h1:=hM2.lt 0 (by omega);have h2:=HP.out.lo 0 (by omega);omega
   have hM3:=hM2.go hxw2 hb3
   refine hK.out _ _ (hM3.cell 0 2 (by omega) rfl) (fun hHeld3=>?_)
   clear hK K hHeld2 hM2 hb2 hb3 hb2s HM
   try simp only [Act.put,z4,z5,z6]
   have c0:=hM3.cell 1 0 (by omega) rfl
   have f0:=hM3.frozen 1 0 (by omega)
   have c1:=hM3.cell 1 1 (by omega) rfl
   have f1:=hM3.frozen 1 1 (by omega)
   have c2:=hM3.cell 1 2 (by omega) rfl
   have f2:=hM3.frozen 1 2 (by omega)
   have c3:=hM3.cell 1 3 (by omega) rfl
   have f3:=hM3.frozen 1 3 (by omega)
   have c4:=hM3.cell 1 4 (by omega) rfl
   have f4:=hM3.frozen 1 4 (by omega)
   have HM4:Hid (FM x w0 Bk (.slice (some ⟨b,off,none⟩) 1 q) (VS c sp A0 nB nC (-(c:Int)) (-(c:Int)) (-1) (-1)) (((((w3.setCell ⟨Bk 1,0,none⟩ (.int .i64 0)).setCell ⟨Bk 1,1,none⟩ (.int .i64 (-1))).setCell ⟨Bk 1,2,none⟩ (.int .i64 (-1))).setCell ⟨Bk 1,3,none⟩ (.int .i64 (-1))).setCell ⟨Bk 1,4,none⟩ (.int .i64 (-1)))):=(((((hM3.setN HP.out 0 _).setN HP.out 1 _).setN HP.out 2 _).setN HP.out 3 _).setN HP.out 4 _)
   clear hM3
   refine tH 17 ?_
   refine tH 18 ?_
   simp only [z1,z2,z3,z4,z5,z6]
   refine wpAnyH_ready (rs:=[19]) (by kernel_rfl) (by simp) ?_
   refine AllReadyH.cons rfl (fun K hK=>?_) AllReadyH.nil
   go_simp
   refine hK.out _ _ ?_ (fun hHeld=>?_)
   ·(try dsimp only);first | (go_keep;done) | ((repeat' apply And.intro) <;> go_simp)
   clear hK K
   try simp only [z4,z5,z6]
   refine tH 20 ?_
   refine tH 21 ?_
   simp only [z1,z2,z3,z4,z5,z6]
   refine wpAnyH_ready (rs:=[22]) (by kernel_rfl) (by simp) ?_
   refine AllReadyH.cons rfl (fun K hK=>?_) AllReadyH.nil
   go_simp
   refine hK.out _ _ ?_ (fun hHeld=>?_)
   ·(try dsimp only);first | (go_keep;done) | ((repeat' apply And.intro) <;> go_simp)
   clear hK K
   try simp only [z4,z5,z6]
   refine tH 23 ?_
   refine tH 24 ?_
   simp only [z1,z2,z3,z4,z5,z6]
   refine wpAnyH_ready (rs:=[25]) (by kernel_rfl) (by simp) ?_
   refine AllReadyH.cons rfl (fun K hK=>?_) AllReadyH.nil
   go_simp
   refine hK.out _ _ ?_ (fun hHeld=>?_)
   ·(try dsimp only);first | (go_keep;done) | ((repeat' apply And.intro) <;> go_simp)
   clear hK K
   try simp only [z4,z5,z6]
   refine wpAnyH_done (by kernel_rfl) ?_ _
   go_wp2
   have HM:=HM4
   exact⟨.inr (.inl ⟨rfl,HM.out⟩),by simp [intOf]⟩
  ·have k2:=hM.cell 0 2 (by omega) rfl
   have hxw:x≤wr.heap.size:=by have h1:=hM.lt 0 (by omega);have h2:=HP.out.lo 0 (by omega);omega
   have HM:Hid (FM x w0 Bk (.slice (some ⟨b,off,none⟩) 1 q) (VS c sp A0 nB nC (-(c:Int)) (-(c:Int)) (-1) (-1)) wr):=hM
   clear hM
   go_wp2
   refine wp_region_held_drew (S:=(fun w':World=>w'.cell? ⟨Bk 0,2,none⟩=some (.slice (some ⟨Bk 1,0,none⟩) 3 3))) (by kernel_rfl) k2 (fun hHeld=>?_)
   refine tH 0 ?_
   try simp only [z4]
   refine tH 1 ?_
   refine tH 2 ?_
   refine tH 3 ?_
   refine tH 4 ?_
   refine tH 5 ?_
   refine tH 6 ?_
   simp only [z1,z2,z3,z4,z5,z6]
   refine tH 7 ?_
   refine tH 8 ?_
   refine tH 9 ?_
   refine tH 10 ?_
   refine tH 11 ?_
   simp only [z1,z2,z3,z4,z5,z6]
   refine tH 12 ?_
   refine tH 13 ?_
   refine tH 14 ?_
   simp only [z1,z2,z3,z4,z5,z6]
   refine wpAnyH_ready (rs:=[15]) (by kernel_rfl) (by simp) ?_
   refine AllReadyH.cons rfl (fun K hK=>?_) AllReadyH.nil
   go_simp
   refine (QaP wr.drew).mono ?_
   rintro e w2 ⟨rfl,hb2⟩
   have hM2:=HM.out.drew.go hxw hb2
   have hb2s:=hb2.size
   refine hK.out _ _ (hM2.cell 0 2 (by omega) rfl) (fun hHeld2=>?_)
   clear hK K hHeld
   try simp only [Act.put,z4,z5,z6]
   refine wpAnyH_ready (rs:=[16]) (by kernel_rfl) (by simp) ?_
   refine AllReadyH.cons rfl (fun K hK=>?_) AllReadyH.nil
   go_simp
   refine (QaP w2).mono ?_
   rintro e w3 ⟨rfl,hb3⟩
   have hxw2:x≤w2.heap.size:=by have h1:=hM2.lt 0 (by omega);have h2:=HP.out.lo 0 (by omega);omega
   have hM3:=hM2.go hxw2 hb3
   refine hK.out _ _ (hM3.cell 0 2 (by omega) rfl) (fun hHeld3=>?_)
   clear hK K hHeld2 hM2 hb2 hb3 hb2s HM
   try simp only [Act.put,z4,z5,z6]
   have c0:=hM3.cell 1 10 (by omega) rfl
   have f0:=hM3.frozen 1 10 (by omega)
   have c1:=hM3.cell 1 11 (by omega) rfl
   have f1:=hM3.frozen 1 11 (by omega)
   have c2:=hM3.cell 1 12 (by omega) rfl
   have f2:=hM3.frozen 1 12 (by omega)
   have c3:=hM3.cell 1 13 (by omega) rfl
   have f3:=hM3.frozen 1 13 (by omega)
   have c4:=hM3.cell 1 14 (by omega) rfl
   have f4:=hM3.frozen 1 14 (by omega)
   have HM4:Hid (FM x w0 Bk (.slice (some ⟨b,off,none⟩) 1 q) (VS c sp A0 B0 nC (-(c:Int)) (-(c:Int)) (-1) (-1)) (((((w3.setCell ⟨Bk 1,10,none⟩ (.int .i64 0)).setCell ⟨Bk 1,11,none⟩ (.int .i64 (-1))).setCell ⟨Bk 1,12,none⟩ (.int .i64 (-1))).setCell ⟨Bk 1,13,none⟩ (.int .i64 (-1))).setCell ⟨Bk 1,14,none⟩ (.int .i64 (-1)))):=(((((hM3.setN HP.out 10 _).setN HP.out 11 _).setN HP.out 12 _).setN HP.out 13 _).setN HP.out 14 _)
   clear hM3
   refine tH 17 ?_
   refine tH 18 ?_
   simp only [z1,z2,z3,z4,z5,z6]
   refine wpAnyH_ready (rs:=[19]) (by kernel_rfl) (by simp) ?_
   refine AllReadyH.cons rfl (fun K hK=>?_) AllReadyH.nil
   go_simp
   refine hK.out _ _ ?_ (fun hHeld=>?_)
   ·(try dsimp only);first | (go_keep;done) | ((repeat' apply And.intro) <;> go_simp)
   clear hK K
   try simp only [z4,z5,z6]
   refine tH 20 ?_
   refine tH 21 ?_
   simp only [z1,z2,z3,z4,z5,z6]
   refine wpAnyH_ready (rs:=[22]) (by kernel_rfl) (by simp) ?_
   refine AllReadyH.cons rfl (fun K hK=>?_) AllReadyH.nil
   go_simp
   refine hK.out _ _ ?_ (fun hHeld=>?_)
   ·(try dsimp only);first | (go_keep;done) | ((repeat' apply And.intro) <;> go_simp)
   clear hK K
   try simp only [z4,z5,z6]
   refine tH 23 ?_
   refine tH 24 ?_
   simp only [z1,z2,z3,z4,z5,z6]
   refine wpAnyH_ready (rs:=[25]) (by kernel_rfl) (by simp) ?_
   refine AllReadyH.cons rfl (fun K hK=>?_) AllReadyH.nil
   go_simp
   refine hK.out _ _ ?_ (fun hHeld=>?_)
   ·(try dsimp only);first | (go_keep;done) | ((repeat' apply And.intro) <;> go_simp)
   clear hK K
   try simp only [z4,z5,z6]
   refine wpAnyH_done (by kernel_rfl) ?_ _
   go_wp2
   have HM:=HM4
   exact⟨.inr (.inr (.inl ⟨rfl,HM.out⟩)),by simp [intOf]⟩
  ·have k2:=hM.cell 0 2 (by omega) rfl
   have hxw:x≤wr.heap.size:=by have h1:=hM.lt 0 (by omega);have h2:=HP.out.lo 0 (by omega);omega
   have HM:Hid (FM x w0 Bk (.slice (some ⟨b,off,none⟩) 1 q) (VS c sp A0 B0 nC (-(c:Int)) (-(c:Int)) (-1) (-1)) wr):=hM
   clear hM
   go_wp2
   refine wp_region_held_drew (S:=(fun w':World=>w'.cell? ⟨Bk 0,2,none⟩=some (.slice (some ⟨Bk 1,0,none⟩) 3 3))) (by kernel_rfl) k2 (fun hHeld=>?_)
   refine tH 0 ?_
   try simp only [z4]
   refine tH 1 ?_
   refine tH 2 ?_
   refine tH 3 ?_
   refine tH 4 ?_
   refine tH 5 ?_
   refine tH 6 ?_
   simp only [z1,z2,z3,z4,z5,z6]
   refine tH 7 ?_
   refine tH 8 ?_
   refine tH 9 ?_
   refine tH 10 ?_
   refine tH 11 ?_
   simp only [z1,z2,z3,z4,z5,z6]
   refine tH 12 ?_
   refine tH 13 ?_
   refine tH 14 ?_
   simp only [z1,z2,z3,z4,z5,z6]
   refine wpAnyH_ready (rs:=[15]) (by kernel_rfl) (by simp) ?_
   refine AllReadyH.cons rfl (fun K hK=>?_) AllReadyH.nil
   go_simp
   refine (QaP wr.drew).mono ?_
   rintro e w2 ⟨rfl,hb2⟩
   have hM2:=HM.out.drew.go hxw hb2
   have hb2s:=hb2.size
   refine hK.out _ _ (hM2.cell 0 2 (by omega) rfl) (fun hHeld2=>?_)
   clear hK K hHeld
   try simp only [Act.put,z4,z5,z6]
   refine wpAnyH_ready (rs:=[16]) (by kernel_rfl) (by simp) ?_
   refine AllReadyH.cons rfl (fun K hK=>?_) AllReadyH.nil
   go_simp
   refine (QaP w2).mono ?_
   rintro e w3 ⟨rfl,hb3⟩
   have hxw2:x≤w2.heap.size:=by have h1:=hM2.lt 0 (by omega);have h2:=HP.out.lo 0 (by omega);omega
   have hM3:=hM2.go hxw2 hb3
   refine hK.out _ _ (hM3.cell 0 2 (by omega) rfl) (fun hHeld3=>?_)
   clear hK K hHeld2 hM2 hb2 hb3 hb2s HM
   try simp only [Act.put,z4,z5,z6]
   have c0:=hM3.cell 1 20 (by omega) rfl
   have f0:=hM3.frozen 1 20 (by omega)
   have c1:=hM3.cell 1 21 (by omega) rfl
   have f1:=hM3.frozen 1 21 (by omega)
   have c2:=hM3.cell 1 22 (by omega) rfl
   have f2:=hM3.frozen 1 22 (by omega)
   have c3:=hM3.cell 1 23 (by omega) rfl
   have f3:=hM3.frozen 1 23 (by omega)
   have c4:=hM3.cell 1 24 (by omega) rfl
   have f4:=hM3.frozen 1 24 (by omega)
   have HM4:Hid (FM x w0 Bk (.slice (some ⟨b,off,none⟩) 1 q) (VS c sp A0 B0 C0 (-(c:Int)) (-(c:Int)) (-1) (-1)) (((((w3.setCell ⟨Bk 1,20,none⟩ (.int .i64 0)).setCell ⟨Bk 1,21,none⟩ (.int .i64 (-1))).setCell ⟨Bk 1,22,none⟩ (.int .i64 (-1))).setCell ⟨Bk 1,23,none⟩ (.int .i64 (-1))).setCell ⟨Bk 1,24,none⟩ (.int .i64 (-1)))):=(((((hM3.setN HP.out 20 _).setN HP.out 21 _).setN HP.out 22 _).setN HP.out 23 _).setN HP.out 24 _)
   clear hM3
   refine tH 17 ?_
   refine tH 18 ?_
   simp only [z1,z2,z3,z4,z5,z6]
   refine wpAnyH_ready (rs:=[19]) (by kernel_rfl) (by simp) ?_
   refine AllReadyH.cons rfl (fun K hK=>?_) AllReadyH.nil
   go_simp
   refine hK.out _ _ ?_ (fun hHeld=>?_)
   ·(try dsimp only);first | (go_keep;done) | ((repeat' apply And.intro) <;> go_simp)
   clear hK K
   try simp only [z4,z5,z6]
   refine tH 20 ?_
   refine tH 21 ?_
   simp only [z1,z2,z3,z4,z5,z6]
   refine wpAnyH_ready (rs:=[22]) (by kernel_rfl) (by simp) ?_
   refine AllReadyH.cons rfl (fun K hK=>?_) AllReadyH.nil
   go_simp
   refine hK.out _ _ ?_ (fun hHeld=>?_)
   ·(try dsimp only);first | (go_keep;done) | ((repeat' apply And.intro) <;> go_simp)
   clear hK K
   try simp only [z4,z5,z6]
   refine tH 23 ?_
   refine tH 24 ?_
   simp only [z1,z2,z3,z4,z5,z6]
   refine wpAnyH_ready (rs:=[25]) (by kernel_rfl) (by simp) ?_
   refine AllReadyH.cons rfl (fun K hK=>?_) AllReadyH.nil
   go_simp
   refine hK.out _ _ ?_ (fun hHeld=>?_)
   ·(try dsimp only);first | (go_keep;done) | ((repeat' apply And.intro) <;> go_simp)
   clear hK K
   try simp only [z4,z5,z6]
   refine wpAnyH_done (by kernel_rfl) ?_ _
   go_wp2
   have HM:=HM4
   exact⟨.inr (.inr (.inr ⟨rfl,HM.out⟩)),by simp [intOf]⟩
  ·have k2:=hM.cell 0 2 (by omega) rfl
   have HM:Hid (FM x w0 Bk (.slice (some ⟨b,off,none⟩) 1 q) (VS c sp A0 B0 C0 (-(c:Int)) (-(c:Int)) (-1) (-1)) wr):=hM
   clear hM
   go_wp2
   go_loopw [41] (fun i wr=>(i = .int .i64 0∧FM x w0 Bk (.slice (some ⟨b,off,none⟩) 1 q) (VS c sp A0 B0 C0 (-(c:Int)) (-(c:Int)) (-1) (-1)) wr)∨(i = .int .i64 1∧FM x w0 Bk (.slice (some ⟨b,off,none⟩) 1 q) (VS c sp A1 B1 C0 (-(c:Int)) (-(c:Int)) (-1) (-1)) wr)∨(i = .int .i64 2∧FM x w0 Bk (.slice (some ⟨b,off,none⟩) 1 q) (VS c sp A2 B2 C0 (-(c:Int)) (-(c:Int)) (-1) (-1)) wr)∨(i = .int .i64 3∧FM x w0 Bk (.slice (some ⟨b,off,none⟩) 1 q) (VS c sp A2 B2 C0 (-(c:Int)) (-(c:Int)) (-1) (-1)) wr)) (fun i _=>3-(intOf i).toNat)
   case atStart=>exact .inl ⟨rfl,HM.out⟩
   case round=>
    clear HM k2
    rcases hrel with ⟨rfl,hM⟩ | ⟨rfl,hM⟩ | ⟨rfl,hM⟩ | ⟨rfl,hM⟩
    ·have k2:=hM.cell 0 2 (by omega) rfl
     have k5:=hM.cell 0 5 (by omega) rfl
     have n6:wr.cell? ⟨Bk 1,6,none⟩=some (.int .i64 0):=hM.cell 1 6 (by omega) rfl
     have m0:=hM.cell 3 0 (by omega) rfl
     have ht:∀ W,W.heap=wr.heap→Calls Tryz.prog 162 #[.pointer (some ⟨Bk 0,0,none⟩),.int .i64 0] W fun e w'=>e = .returned (.bool true)∧w'=W:=fun W hW=>Qmg x W Bk b off c q sp A0 B0 C0 (-(c:Int)) (-(c:Int)) (-1) (-1) W ⟨fun i hi=>by have:=hM.mem i hi;unfold Blk at this ⊢;rw [hW];exact this,YD⟩
     have HM:Hid (FM x w0 Bk (.slice (some ⟨b,off,none⟩) 1 q) (VS c sp A0 B0 C0 (-(c:Int)) (-(c:Int)) (-1) (-1)) wr):=hM
     clear hM
     go_wp2
     go_quiet ((go_at_call 162;exact Calls.quiet_of_same (ht _ rfl)))
     have hl:=lead0 x w0 Bk b off c q sp _ _ _ _ HP.out (wr.drewN nq) (HM.out.drewN nq)
     go_wp2_with fail
     refine hl.mono ?_
     rintro e w5 ⟨rfl,hM5⟩
     have HM5:Hid (FM x w0 Bk (.slice (some ⟨b,off,none⟩) 1 q) (VS c sp A1 B1 C0 (-(c:Int)) (-(c:Int)) (-1) (-1)) w5):=hM5
     clear hl hM5 HM
     go_wp2
     have HM:=HM5
     exact⟨.inr (.inl ⟨rfl,HM.out⟩),by simp [intOf]⟩
    ·have k2:=hM.cell 0 2 (by omega) rfl
     have k5:=hM.cell 0 5 (by omega) rfl
     have n6:wr.cell? ⟨Bk 1,16,none⟩=some (.int .i64 1):=hM.cell 1 16 (by omega) rfl
     have m0:=hM.cell 3 1 (by omega) rfl
     have ht:∀ W,W.heap=wr.heap→Calls Tryz.prog 162 #[.pointer (some ⟨Bk 0,0,none⟩),.int .i64 1] W fun e w'=>e = .returned (.bool true)∧w'=W:=fun W hW=>Qmf x W Bk b off c q sp A1 B1 C0 (-(c:Int)) (-(c:Int)) (-1) (-1) W ⟨fun i hi=>by have:=hM.mem i hi;unfold Blk at this ⊢;rw [hW];exact this,YD⟩
     have HM:Hid (FM x w0 Bk (.slice (some ⟨b,off,none⟩) 1 q) (VS c sp A1 B1 C0 (-(c:Int)) (-(c:Int)) (-1) (-1)) wr):=hM
     clear hM
     go_wp2
     go_quiet ((go_at_call 162;exact Calls.quiet_of_same (ht _ rfl)))
     have hl:=lead1 x w0 Bk b off c q sp _ _ _ _ HP.out (wr.drewN nq) (HM.out.drewN nq)
     go_wp2_with fail
     refine hl.mono ?_
     rintro e w5 ⟨rfl,hM5⟩
     have HM5:Hid (FM x w0 Bk (.slice (some ⟨b,off,none⟩) 1 q) (VS c sp A2 B2 C0 (-(c:Int)) (-(c:Int)) (-1) (-1)) w5):=hM5
     clear hl hM5 HM
     go_wp2
     have HM:=HM5
     exact⟨.inr (.inr (.inl ⟨rfl,HM.out⟩)),by simp [intOf]⟩
    ·have ht:∀ W,W.heap=wr.heap→Calls Tryz.prog 162 #[.pointer (some ⟨Bk 0,0,none⟩),.int .i64 2] W fun e w'=>e = .returned (.bool false)∧w'=W:=fun W hW=>Qg4 x W Bk b off c q sp A2 B2 C0 (-(c:Int)) (-(c:Int)) (-1) (-1) W ⟨fun i hi=>by have:=hM.mem i hi;unfold Blk at this ⊢;rw [hW];exact this,YD⟩
     have HM:Hid (FM x w0 Bk (.slice (some ⟨b,off,none⟩) 1 q) (VS c sp A2 B2 C0 (-(c:Int)) (-(c:Int)) (-1) (-1)) wr):=hM
     clear hM
     go_wp2
     go_quiet ((go_at_call 162;exact Calls.quiet_of_same (ht _ rfl)))
     have HM5:Hid (FM x w0 Bk (.slice (some ⟨b,off,none⟩) 1 q) (VS c sp A2 B2 C0 (-(c:Int)) (-(c:Int)) (-1) (-1)) (wr.drewN nq)):=HM.out.drewN nq
     clear HM
     go_wp2
     have HM:=HM5
     exact⟨.inr (.inr (.inr ⟨rfl,HM.out⟩)),by simp [intOf]⟩
    ·have HM:Hid (FM x w0 Bk (.slice (some ⟨b,off,none⟩) 1 q) (VS c sp A2 B2 C0 (-(c:Int)) (-(c:Int)) (-1) (-1)) wr):=hM
     clear hM
     go_wp2
     exact bodyPost_end (results_none rfl _ _ _) rfl ⟨rfl,HM.out⟩
end
end Go.Proofs.YtalflecmadacaaaGreat
