import Derived.OwnWalk
import Derived.Test.YtalflecmadacaaaGreatZBB
import Derived.Test.YtalflecmadacaaaGreatZAL
import Derived.Deep.QuietTactic
import Derived.BigQuiet
import Derived.Deep.RegionHeld3
set_option maxRecDepth 100000
set_option maxHeartbeats 8000000
namespace Go.Proofs.YtalflecmadacaaaGreat
open Go Go.Proofs Go.RowKit
theorem QjK (x:Nat)(w0:World)(Bk:Nat→Nat)(b off c q:Nat)(hP:FP x w0 Bk b off c)(w:World)(hM:FM x w0 Bk (.slice (some ⟨b,off,none⟩) 1 q) (V2 c) w):
  Calls Tryz.prog 140 #[.pointer (some ⟨Bk 0,0,none⟩),.int .i64 2] w fun e w'=>e = .returned (.tuple #[])∧∃ sp,FM x w0 Bk (.slice (some ⟨b,off,none⟩) 1 q) (V3 c sp) w':=by
 obtain⟨i0,hi,hz0,hz1,hz2⟩:=info_parts infoI
 have g2:=hM.cell 0 2 (by omega) rfl
 have g3:w.cell? ⟨Bk 0,3,none⟩=some (.slice none 0 0):=hM.cell 0 3 (by omega) rfl
 have h3:=hM.frozen 0 3 (by omega)
 have n20:=hM.cell 1 20 (by omega) rfl
 have f20:=hM.frozen 1 20 (by omega)
 have n21:=hM.cell 1 21 (by omega) rfl
 have f21:=hM.frozen 1 21 (by omega)
 have n22:=hM.cell 1 22 (by omega) rfl
 have f22:=hM.frozen 1 22 (by omega)
 have n23:=hM.cell 1 23 (by omega) rfl
 have f23:=hM.frozen 1 23 (by omega)
 have n24:=hM.cell 1 24 (by omega) rfl
 have f24:=hM.frozen 1 24 (by omega)
 have n25:=hM.cell 1 25 (by omega) rfl
 have f25:=hM.frozen 1 25 (by omega)
 have n26:=hM.cell 1 26 (by omega) rfl
 have f26:=hM.frozen 1 26 (by omega)
 have n27:=hM.cell 1 27 (by omega) rfl
 have f27:=hM.frozen 1 27 (by omega)
 have n28:=hM.cell 1 28 (by omega) rfl
 have f28:=hM.frozen 1 28 (by omega)
 have n29:=hM.cell 1 29 (by omega) rfl
 have f29:=hM.frozen 1 29 (by omega)
 have d1:Bk 0≠Bk 1:=hP.ne (by omega) (by omega) (by omega)
 have HM1:Hid (FM x w0 Bk (.slice (some ⟨b,off,none⟩) 1 q) (V3 c (.slice none 0 0)) ((((((((((w.setCell ⟨Bk 1,20,none⟩ (.int .i64 0)).setCell ⟨Bk 1,21,none⟩ (.int .i64 0)).setCell ⟨Bk 1,22,none⟩ (.int .i64 0)).setCell ⟨Bk 1,23,none⟩ (.int .i64 0)).setCell ⟨Bk 1,24,none⟩ (.int .i64 0)).setCell ⟨Bk 1,25,none⟩ (.int .i64 (-2))).setCell ⟨Bk 1,26,none⟩ (.int .i64 0)).setCell ⟨Bk 1,27,none⟩ (.slice none 0 0)).setCell ⟨Bk 1,28,none⟩ (.slice none 0 0)).setCell ⟨Bk 1,29,none⟩ (.int .i64 0))):=((((((((((hM.setN hP 20 (.int .i64 0)).setN hP 21 (.int .i64 0)).setN hP 22 (.int .i64 0)).setN hP 23 (.int .i64 0)).setN hP 24 (.int .i64 0)).setN hP 25 (.int .i64 (-2))).setN hP 26 (.int .i64 0)).setN hP 27 (.slice none 0 0)).setN hP 28 (.slice none 0 0)).setN hP 29 (.int .i64 0))
 have HSZ:Hid (((((((((((w.setCell ⟨Bk 1,20,none⟩ (.int .i64 0)).setCell ⟨Bk 1,21,none⟩ (.int .i64 0)).setCell ⟨Bk 1,22,none⟩ (.int .i64 0)).setCell ⟨Bk 1,23,none⟩ (.int .i64 0)).setCell ⟨Bk 1,24,none⟩ (.int .i64 0)).setCell ⟨Bk 1,25,none⟩ (.int .i64 (-2))).setCell ⟨Bk 1,26,none⟩ (.int .i64 0)).setCell ⟨Bk 1,27,none⟩ (.slice none 0 0)).setCell ⟨Bk 1,28,none⟩ (.slice none 0 0)).setCell ⟨Bk 1,29,none⟩ (.int .i64 0)).heap.size=w.heap.size):=by show _=_;simp
 have HX:Hid (x≤w.heap.size):=by have h1:=hM.lt 0 (by omega);have h2:=hP.lo 0 (by omega);show _≤_;omega
 have hfb:=hM.lt 0 (by omega)
 have HP:Hid _:=hP
 clear hM hP
 go_enter Tryz.func140,Tryz.ntmps140
 go_wp2_with (at_builtin;have hnews:=Qbg ((((((((((w.setCell ⟨Bk 1,20,none⟩ (.int .i64 0)).setCell ⟨Bk 1,21,none⟩ (.int .i64 0)).setCell ⟨Bk 1,22,none⟩ (.int .i64 0)).setCell ⟨Bk 1,23,none⟩ (.int .i64 0)).setCell ⟨Bk 1,24,none⟩ (.int .i64 0)).setCell ⟨Bk 1,25,none⟩ (.int .i64 (-2))).setCell ⟨Bk 1,26,none⟩ (.int .i64 0)).setCell ⟨Bk 1,27,none⟩ (.slice none 0 0)).setCell ⟨Bk 1,28,none⟩ (.slice none 0 0)).setCell ⟨Bk 1,29,none⟩ (.int .i64 0)) (.int .i64 2) 3;refine wpList_append_own_at _ rfl _ _ 27 rfl w.heap.size 3 i0 (.int .i64 0) 1 8 Tryz.underlying27 hi hz0 hz1 hz2 rfl (by decide) (.slice none 0 0) 0 [] rfl (World.ownsRow_nil _ _ _ _) ⟨w.heap.size,0,none⟩ 1 1 [.int .i64 2] rfl rfl ?_ (by intro u hu;rw [YF hu];rfl) (by unfold maxLen;omega) (by omega) (by simp) ?_)
 ·have:=hnews
  rw [HSZ.out] at this
  exact this
 ·intro v6 w6 hown6 hg6 hnil6 hat6
  obtain⟨a6,m6,c6,rfl⟩:=Qa0 hown6
  have HO6:Hid _:=hown6
  have hb7:Below w.heap.size ((((((((((w.setCell ⟨Bk 1,20,none⟩ (.int .i64 0)).setCell ⟨Bk 1,21,none⟩ (.int .i64 0)).setCell ⟨Bk 1,22,none⟩ (.int .i64 0)).setCell ⟨Bk 1,23,none⟩ (.int .i64 0)).setCell ⟨Bk 1,24,none⟩ (.int .i64 0)).setCell ⟨Bk 1,25,none⟩ (.int .i64 (-2))).setCell ⟨Bk 1,26,none⟩ (.int .i64 0)).setCell ⟨Bk 1,27,none⟩ (.slice none 0 0)).setCell ⟨Bk 1,28,none⟩ (.slice none 0 0)).setCell ⟨Bk 1,29,none⟩ (.int .i64 0)) w6:=((Below.refl w.heap.size _).alloc (by rw [HSZ.out];exact YA) _).grown hg6 (by simp) (fun k e=>by cases e)
  have hM7:FM x w0 Bk (.slice (some ⟨b,off,none⟩) 1 q) (V3 c (.slice none 0 0)) w6:=HM1.out.go (by rw [HSZ.out];exact HX.out) (by rw [HSZ.out];exact hb7)
  have HM8:Hid (FM x w0 Bk (.slice (some ⟨b,off,none⟩) 1 q) (V3 c (.slice a6 m6 c6)) (w6.setCell ⟨Bk 0,3,none⟩ (.slice a6 m6 c6))):=hM7.setSp HP.out _
  have k3:w6.cell? ⟨Bk 0,3,none⟩=some (.slice none 0 0):=hM7.cell 0 3 (by omega) rfl
  have l3:=hM7.frozen 0 3 (by omega)
  clear hown6 hg6 hnil6 hat6 hnews hb7 hM7 HM1 HSZ
  go_wp2
  exact bodyPost_end (results_none rfl _ _ _) rfl ⟨rfl,_,HM8.out⟩
theorem Qpn (x:Nat)(w0:World)(Bk:Nat→Nat)(b off c q:Nat)(sp:Value)(hP:FP x w0 Bk b off c)(w:World)(hM:FM x w0 Bk (.slice (some ⟨b,off,none⟩) 1 q) (V3 c sp) w):
  Calls Tryz.prog 141 #[.pointer (some ⟨Bk 0,0,none⟩)] w fun e w'=>e = .returned (.tuple #[])∧FM x w0 Bk (.slice (some ⟨b,off,none⟩) 1 q) (V4 c sp) w':=by
 have hmix:=mixed
 have hc:=hP.small
 have HP:Hid _:=hP
 have h05:=hM.cell 0 7 (by omega) rfl
 clear hP
 go_enter Tryz.func141,Tryz.ntmps141
 go_wp2
 go_loopw [11] (fun i wr=>(i = .int .i64 0∧FM x w0 Bk (.slice (some ⟨b,off,none⟩) 1 q) (V3 c sp) wr)∨(i = .int .i64 1∧FM x w0 Bk (.slice (some ⟨b,off,none⟩) 1 q) (V3a c sp) wr)∨(i = .int .i64 2∧FM x w0 Bk (.slice (some ⟨b,off,none⟩) 1 q) (V4 c sp) wr)) (fun i _=>2-(intOf i).toNat)
 case atStart=>exact .inl ⟨rfl,hM⟩
 case round=>
  clear hM h05
  rcases hrel with ⟨rfl,hM⟩ | ⟨rfl,hM⟩ | ⟨rfl,hM⟩
  ·have g5:=hM.cell 5 0 (by omega) rfl
   have HM:Hid (FM x w0 Bk (.slice (some ⟨b,off,none⟩) 1 q) (V3 c sp) wr):=hM
   clear hM
   go_wp2
   go_loopw [18] (fun i wr=>(i = .int .i64 0∧FM x w0 Bk (.slice (some ⟨b,off,none⟩) 1 q) (V3 c sp) wr)∨(i = .int .i64 1∧FM x w0 Bk (.slice (some ⟨b,off,none⟩) 1 q) (V3 c sp) wr)∨(i = .int .i64 2∧FM x w0 Bk (.slice (some ⟨b,off,none⟩) 1 q) (V3a c sp) wr)) (fun i _=>2-(intOf i).toNat)
   case atStart=>exact .inl ⟨rfl,HM.out⟩
   case round=>
    clear HM g5
    rcases hrel with ⟨rfl,hM⟩ | ⟨rfl,hM⟩ | ⟨rfl,hM⟩
    ·have g5:=hM.cell 6 0 (by omega) rfl
     have HM1:Hid (FM x w0 Bk (.slice (some ⟨b,off,none⟩) 1 q) (V3 c sp) wr):=hM
     clear hM
     go_wp2
     exact⟨.inr (.inl ⟨rfl,HM1.out⟩),by simp [intOf]⟩
    ·have g5:=hM.cell 6 1 (by omega) rfl
     have g8:=hM.cell 0 8 (by omega) rfl
     have g1:=hM.cell 0 1 (by omega) rfl
     have g9:=hM.cell 0 9 (by omega) rfl
     have k8:=hM.cell 8 0 (by omega) rfl
     have k11:=hM.cell 11 0 (by omega) rfl
     have t0:=hM.cell 9 1 (by omega) rfl
     have f0:=hM.frozen 9 1 (by omega)
     obtain⟨c0,c1,c2⟩:=HP.out.edge wr hM.bel
     have HM1:Hid (FM x w0 Bk (.slice (some ⟨b,off,none⟩) 1 q) (VI c sp (NA++(NB++NC)) w01 [.int .i64 0,.int .i64 (2*(c:Int))] z2 linkN linkN) (wr.setCell ⟨Bk 9,1,none⟩ (.int .i64 (2*(c:Int))))):=hM.setT0 HP.out 1 _
     have hqn:(0:Int)<1:=by omega
     clear hM
     go_wp2
     go_big_region_o
     obtain⟨wz,hwz⟩:∃ W,(wr.setCell ⟨Bk 9,1,none⟩ (.int .i64 (2*(c:Int)))).drew=W:=⟨_,rfl⟩
     have hM2:FM x w0 Bk (.slice (some ⟨b,off,none⟩) 1 q) (VI c sp (NA++(NB++NC)) w01 [.int .i64 0,.int .i64 (2*(c:Int))] z2 linkN linkN) wz:=by rw [← hwz];exact HM1.out.drew
     rw [hwz]
     clear hwz HM1 g5 g8 g1 g9 k8 k11 t0 f0 c0 c1 c2
     have g9:=hM2.cell 0 9 (by omega) rfl
     have k11:=hM2.cell 11 0 (by omega) rfl
     have a0:=hM2.cell 12 2 (by omega) rfl
     have a1:=hM2.cell 12 3 (by omega) rfl
     have b0:=hM2.frozen 12 2 (by omega)
     have b1:=hM2.frozen 12 3 (by omega)
     have HM3:Hid (FM x w0 Bk (.slice (some ⟨b,off,none⟩) 1 q) (V3a c sp) ((wz.setCell ⟨Bk 12,2,none⟩ (.int .i64 0)).setCell ⟨Bk 12,3,none⟩ (.int .i64 1))):=(hM2.setE0 HP.out 2 _).setE0 HP.out 3 _
     clear hM2
     go_wp2
     exact⟨.inr (.inr ⟨rfl,HM3.out⟩),by simp [intOf]⟩
    ·have HM1:Hid (FM x w0 Bk (.slice (some ⟨b,off,none⟩) 1 q) (V3a c sp) wr):=hM
     clear hM
     go_wp2
     exact⟨.inr (.inl ⟨rfl,HM1.out⟩),by simp [intOf]⟩
  ·have g5:=hM.cell 5 1 (by omega) rfl
   have HM:Hid (FM x w0 Bk (.slice (some ⟨b,off,none⟩) 1 q) (V3a c sp) wr):=hM
   clear hM
   go_wp2
   go_loopw [18] (fun i wr=>(i = .int .i64 0∧FM x w0 Bk (.slice (some ⟨b,off,none⟩) 1 q) (V3a c sp) wr)∨(i = .int .i64 1∧FM x w0 Bk (.slice (some ⟨b,off,none⟩) 1 q) (V4 c sp) wr)∨(i = .int .i64 2∧FM x w0 Bk (.slice (some ⟨b,off,none⟩) 1 q) (V4 c sp) wr)) (fun i _=>2-(intOf i).toNat)
   case atStart=>exact .inl ⟨rfl,HM.out⟩
   case round=>
    clear HM g5
    rcases hrel with ⟨rfl,hM⟩ | ⟨rfl,hM⟩ | ⟨rfl,hM⟩
    ·have g5:=hM.cell 7 0 (by omega) rfl
     have g8:=hM.cell 0 8 (by omega) rfl
     have g1:=hM.cell 0 1 (by omega) rfl
     have g9:=hM.cell 0 9 (by omega) rfl
     have k8:=hM.cell 8 1 (by omega) rfl
     have k11:=hM.cell 11 1 (by omega) rfl
     have t0:=hM.cell 10 0 (by omega) rfl
     have f0:=hM.frozen 10 0 (by omega)
     obtain⟨c0,c1,c2⟩:=HP.out.edge wr hM.bel
     have HM1:Hid (FM x w0 Bk (.slice (some ⟨b,off,none⟩) 1 q) (VI c sp (NA++(NB++NC)) w01 [.int .i64 0,.int .i64 (2*(c:Int))] [.int .i64 (2*(c:Int)),.int .i64 0] eA linkN) (wr.setCell ⟨Bk 10,0,none⟩ (.int .i64 (2*(c:Int))))):=hM.setT1 HP.out 0 _
     have hqn:(0:Int)<1:=by omega
     clear hM
     go_wp2
     go_big_region_o
     obtain⟨wz,hwz⟩:∃ W,(wr.setCell ⟨Bk 10,0,none⟩ (.int .i64 (2*(c:Int)))).drew=W:=⟨_,rfl⟩
     have hM2:FM x w0 Bk (.slice (some ⟨b,off,none⟩) 1 q) (VI c sp (NA++(NB++NC)) w01 [.int .i64 0,.int .i64 (2*(c:Int))] [.int .i64 (2*(c:Int)),.int .i64 0] eA linkN) wz:=by rw [← hwz];exact HM1.out.drew
     rw [hwz]
     clear hwz HM1 g5 g8 g1 g9 k8 k11 t0 f0 c0 c1 c2
     have g9:=hM2.cell 0 9 (by omega) rfl
     have k11:=hM2.cell 11 1 (by omega) rfl
     have a0:=hM2.cell 13 0 (by omega) rfl
     have a1:=hM2.cell 13 1 (by omega) rfl
     have b0:=hM2.frozen 13 0 (by omega)
     have b1:=hM2.frozen 13 1 (by omega)
     have HM3:Hid (FM x w0 Bk (.slice (some ⟨b,off,none⟩) 1 q) (V4 c sp) ((wz.setCell ⟨Bk 13,0,none⟩ (.int .i64 1)).setCell ⟨Bk 13,1,none⟩ (.int .i64 0))):=(hM2.setE1 HP.out 0 _).setE1 HP.out 1 _
     clear hM2
     go_wp2
     exact⟨.inr (.inl ⟨rfl,HM3.out⟩),by simp [intOf]⟩
    ·have g5:=hM.cell 7 1 (by omega) rfl
     have HM1:Hid (FM x w0 Bk (.slice (some ⟨b,off,none⟩) 1 q) (V4 c sp) wr):=hM
     clear hM
     go_wp2
     exact⟨.inr (.inr ⟨rfl,HM1.out⟩),by simp [intOf]⟩
    ·have HM1:Hid (FM x w0 Bk (.slice (some ⟨b,off,none⟩) 1 q) (V4 c sp) wr):=hM
     clear hM
     go_wp2
     exact⟨.inr (.inr ⟨rfl,HM1.out⟩),by simp [intOf]⟩
  ·go_wp2
   exact bodyPost_end (results_none rfl _ _ _) rfl ⟨rfl,hM⟩
structure ND where
 s:Int
 vf:Int
 vt:Int
 nf:Int
 nt:Int
 h:Int
 b:Int
def ND.l (A:ND):List Value:=nodeV A.s A.vf A.vt A.nf A.nt A.h A.b
def VS (c:Nat)(sp:Value)(A B C:ND)(y0 y1 m0 m1:Int):FV:=⟨sp,A.l++(B.l++C.l),[.int .i64 y0,.int .i64 y1],[.int .i64 m0,.int .i64 m1],w01,[.int .i64 0,.int .i64 (2*(c:Int))],[.int .i64 (2*(c:Int)),.int .i64 0],eA,eB,linkN⟩
def nA:ND:=⟨0,0,0,0,0,-1,0⟩
def nB:ND:=⟨0,0,0,0,0,-1,1⟩
def nC:ND:=⟨0,0,0,0,0,-2,0⟩
theorem QaQ (a b:Int)(w:World):Calls Tryz.prog 175 #[.agg #[.int .i64 a,.int .i64 b]] w fun e w'=>e = .returned (.bool (a != -1))∧Grew w w':=by
 have hg1:Grew w (w.alloc (.cells #[.int .i64 a,.int .i64 b] 171)):=(Grew.refl w).alloc _
 go_enter Tryz.func175,Tryz.ntmps175
 go_wp2
 go_ret
 exact⟨rfl,hg1⟩
theorem Qf3 (fb nb x:Nat)(h:Int)(hx:x<3)(w:World)(h2:w.cell? ⟨fb,2,none⟩=some (.slice (some ⟨nb,0,none⟩) 3 3))(h5:w.cell? ⟨nb,x*10+5,none⟩=some (.int .i64 h)):Calls Tryz.prog 162 #[.pointer (some ⟨fb,0,none⟩),.int .i64 (x:Int)] w fun e w'=>e = .returned (.bool (h == -1))∧w'=w:=by
 have hx':(x:Int)<3:=by omega
 go_enter Tryz.func162,Tryz.ntmps162
 go_wp2
 go_ret
 exact⟨rfl,rfl⟩
section
variable (x:Nat) (w0:World) (Bk:Nat→Nat) (b off c q:Nat) (sp:Value) (A B C:ND) (y0 y1 m0 m1:Int)
theorem Qmg (w:World)(hM:FM x w0 Bk (.slice (some ⟨b,off,none⟩) 1 q) (VS c sp A B C y0 y1 m0 m1) w):Calls Tryz.prog 162 #[.pointer (some ⟨Bk 0,0,none⟩),.int .i64 0] w fun e w'=>e = .returned (.bool (A.h == -1))∧w'=w:=
 Qf3 (Bk 0) (Bk 1) 0 A.h (by omega) w (hM.cell 0 2 (by omega) rfl) (hM.cell 1 5 (by omega) rfl)
theorem Qmf (w:World)(hM:FM x w0 Bk (.slice (some ⟨b,off,none⟩) 1 q) (VS c sp A B C y0 y1 m0 m1) w):Calls Tryz.prog 162 #[.pointer (some ⟨Bk 0,0,none⟩),.int .i64 1] w fun e w'=>e = .returned (.bool (B.h == -1))∧w'=w:=
 Qf3 (Bk 0) (Bk 1) 1 B.h (by omega) w (hM.cell 0 2 (by omega) rfl) (hM.cell 1 15 (by omega) rfl)
theorem Qg4 (w:World)(hM:FM x w0 Bk (.slice (some ⟨b,off,none⟩) 1 q) (VS c sp A B C y0 y1 m0 m1) w):Calls Tryz.prog 162 #[.pointer (some ⟨Bk 0,0,none⟩),.int .i64 2] w fun e w'=>e = .returned (.bool (C.h == -1))∧w'=w:=
 Qf3 (Bk 0) (Bk 1) 2 C.h (by omega) w (hM.cell 0 2 (by omega) rfl) (hM.cell 1 25 (by omega) rfl)
theorem Qo6 (hc:c<1099511627776)(w:World)(hM:FM x w0 Bk (.slice (some ⟨b,off,none⟩) 1 q) (VS c sp A B C (-(c:Int)) (-(c:Int)) m0 m1) w)(hx:x≤w.heap.size):Calls Tryz.prog 176 #[.pointer (some ⟨Bk 0,0,none⟩),.agg #[.int .i64 1,.int .i64 0]] w fun e w'=>e = .returned (.int .i64 0)∧Below w.heap.size w w':=by
 have hmix:=mixed
 have hal:Below w.heap.size w (w.alloc (.cells #[.int .i64 1,.int .i64 0] 171)):=YD.alloc YA _
 have hL:Blk 171 (w.alloc (.cells #[.int .i64 1,.int .i64 0] 171)) w.heap.size [.int .i64 1,.int .i64 0]:=heap_alloc_new w _
 have hN:=hM.go hx hal
 have k4:=hN.cell 0 4 (by omega) rfl
 have k8:=hN.cell 0 8 (by omega) rfl
 have a0:=hN.cell 2 0 (by omega) rfl
 have a1:=hN.cell 2 1 (by omega) rfl
 have b1:=hN.cell 8 1 (by omega) rfl
 have t0:=hN.cell 10 0 (by omega) rfl
 have l0:=hL.cell (j:=0) rfl
 have l1:=hL.cell (j:=1) rfl
 have HAL:Hid _:=hal
 clear hM hN hL hal
 go_enter Tryz.func176,Tryz.ntmps176
 go_wp2
 go_quiet (fail)
 go_wp2
 go_ret
 refine⟨?_,Qab HAL.out nq⟩
 show Ending.returned (.int .i64 _)=_
 congr 2
 omega
theorem Qo7 (hc:c<1099511627776)(w:World)(hM:FM x w0 Bk (.slice (some ⟨b,off,none⟩) 1 q) (VS c sp A B C (-(c:Int)) (-(c:Int)) m0 m1) w)(hx:x≤w.heap.size):Calls Tryz.prog 176 #[.pointer (some ⟨Bk 0,0,none⟩),.agg #[.int .i64 0,.int .i64 1]] w fun e w'=>e = .returned (.int .i64 0)∧Below w.heap.size w w':=by
 have hmix:=mixed
 have hal:Below w.heap.size w (w.alloc (.cells #[.int .i64 0,.int .i64 1] 171)):=YD.alloc YA _
 have hL:Blk 171 (w.alloc (.cells #[.int .i64 0,.int .i64 1] 171)) w.heap.size [.int .i64 0,.int .i64 1]:=heap_alloc_new w _
 have hN:=hM.go hx hal
 have k4:=hN.cell 0 4 (by omega) rfl
 have k8:=hN.cell 0 8 (by omega) rfl
 have a0:=hN.cell 2 0 (by omega) rfl
 have a1:=hN.cell 2 1 (by omega) rfl
 have b1:=hN.cell 8 0 (by omega) rfl
 have t0:=hN.cell 9 1 (by omega) rfl
 have l0:=hL.cell (j:=0) rfl
 have l1:=hL.cell (j:=1) rfl
 have HAL:Hid _:=hal
 clear hM hN hL hal
 go_enter Tryz.func176,Tryz.ntmps176
 go_wp2
 go_quiet (fail)
 go_wp2
 go_ret
 refine⟨?_,Qab HAL.out nq⟩
 show Ending.returned (.int .i64 _)=_
 congr 2
 omega
end
theorem QkL {w W':World}{a0 a1 b0 b1:Value}{ta tb:TypeId}(h:Grew ((w.alloc (.cells #[a0,a1] ta)).alloc (.cells #[b0,b1] tb)) W'):W'.cell? ⟨w.heap.size,0,none⟩=some a0∧W'.cell? ⟨w.heap.size,1,none⟩=some a1∧W'.cell? ⟨w.heap.size+1,0,none⟩=some b0∧W'.cell? ⟨w.heap.size+1,1,none⟩=some b1:=by
 have h1:Blk ta (w.alloc (.cells #[a0,a1] ta)) w.heap.size [a0,a1]:=heap_alloc_new w _
 have h2:Blk tb ((w.alloc (.cells #[a0,a1] ta)).alloc (.cells #[b0,b1] tb)) (w.alloc (.cells #[a0,a1] ta)).heap.size [b0,b1]:=heap_alloc_new _ _
 have h3:=(h1.go (YD.alloc YA _:Below _ _ ((w.alloc (.cells #[a0,a1] ta)).alloc (.cells #[b0,b1] tb)))).go h.below
 have h4:=h2.go h.below
 have e:(w.alloc (.cells #[a0,a1] ta)).heap.size=w.heap.size+1:=by simp
 rw [e] at h4
 exact⟨h3.cell (j:=0) rfl,h3.cell (j:=1) rfl,h4.cell (j:=0) rfl,h4.cell (j:=1) rfl⟩
theorem QdO (f:Value)(a b:Int)(ha:(a != -1)=true)(w:World):Calls Tryz.prog 193 #[f,.agg #[.int .i64 a,.int .i64 b],.agg #[.int .i64 (-1),.int .i64 (-1)]] w fun e w'=>e = .returned (.bool true)∧Grew w w':=by
 have hmix:=mixed
 have hg0:Grew w ((w.alloc (.cells #[.int .i64 a,.int .i64 b] 171)).alloc (.cells #[.int .i64 (-1),.int .i64 (-1)] 171)):=((Grew.refl w).alloc _).alloc _
 obtain⟨x0,x1,y0,y1⟩:=QkL (w:=w) (a0:=.int .i64 a) (a1:=.int .i64 b) (b0:=.int .i64 (-1)) (b1:=.int .i64 (-1)) (ta:=171) (tb:=171) (Grew.refl _)
 have hsz:((w.alloc (.cells #[.int .i64 a,.int .i64 b] 171)).alloc (.cells #[.int .i64 (-1),.int .i64 (-1)] 171)).heap.size=w.heap.size+1+1:=by simp
 go_enter Tryz.func193,Tryz.ntmps193
 go_wp2
 obtain⟨W1,hW1⟩:∃ W,(w.alloc (.cells #[.int .i64 a,.int .i64 b] 171)).alloc (.cells #[.int .i64 (-1),.int .i64 (-1)] 171)=W:=⟨_,rfl⟩
 rw [hW1] at x0 x1 y0 y1 hsz hg0 ⊢
 clear hW1
 have g0:=cell_grown (a:=⟨w.heap.size,0,none⟩) (by show w.heap.size<_;omega) x0
 have g1:=cell_grown (a:=⟨w.heap.size,1,none⟩) (by show w.heap.size<_;omega) x1
 have g2:=cell_grown (a:=⟨w.heap.size+1,0,none⟩) (by show w.heap.size+1<_;omega) y0
 have g3:=cell_grown (a:=⟨w.heap.size+1,1,none⟩) (by show w.heap.size+1<_;omega) y1
 clear x0 x1 y0 y1 hsz
 go_quiet_grown (first | (go_at_call 175;refine Calls.grown_of (QaQ _ _ _)))
 go_wp2
 go_ret
 exact⟨rfl,hg0.trans ⟨nq,osq,rfl⟩⟩
section
variable (x:Nat) (w0:World) (Bk:Nat→Nat) (b off c q:Nat) (sp:Value) (A B C:ND) (y0 y1 m0 m1:Int)
theorem QpP (hP:FP x w0 Bk b off c)(hA1:A.nf = -1)(hA2:A.nt = -1)(w:World)(hM:FM x w0 Bk (.slice (some ⟨b,off,none⟩) 1 q) (VS c sp A B C y0 y1 m0 m1) w):Calls Tryz.prog 174 #[.pointer (some ⟨Bk 0,0,none⟩),.int .i64 0,.agg #[.int .i64 1,.int .i64 0]] w fun e w'=>e = .returned (.tuple #[])∧FM x w0 Bk (.slice (some ⟨b,off,none⟩) 1 q) (VS c sp { A with nf:=1,nt:=0 } B C y0 y1 m0 m1) w':=by
 have hmix:=mixed
 have hx:x≤w.heap.size:=by have h1:=hM.lt 0 (by omega);have h2:=hP.lo 0 (by omega);omega
 have hal:Below w.heap.size w (w.alloc (.cells #[.int .i64 1,.int .i64 0] 171)):=YD.alloc YA _
 have hL:Blk 171 (w.alloc (.cells #[.int .i64 1,.int .i64 0] 171)) w.heap.size [.int .i64 1,.int .i64 0]:=heap_alloc_new w _
 have hN:=hM.go hx hal
 have hfl:=hM.lt 1 (by omega)
 obtain⟨s0,vf0,vt0,nf0,nt0,h0,b0⟩:=A
 simp only at hA1 hA2
 subst hA1 hA2
 have HP:Hid _:=hP
 clear hM hP hal
 go_enter Tryz.func174,Tryz.ntmps174
 go_wp2
 obtain⟨W1,hW1⟩:∃ W,w.alloc (.cells #[.int .i64 1,.int .i64 0] 171)=W:=⟨_,rfl⟩
 rw [hW1] at hN hL ⊢
 obtain⟨lb,hlb⟩:∃ n,w.heap.size=n:=⟨_,rfl⟩
 rw [hlb] at hL hfl hx ⊢
 clear hW1 hlb
 have l0:=hL.cell (j:=0) rfl
 have l1:=hL.cell (j:=1) rfl
 have k2:=hN.cell 0 2 (by omega) rfl
 have a3:=hN.cell 1 3 (by omega) rfl
 have a4:=hN.cell 1 4 (by omega) rfl
 have hlt:=hL.lt
 have e0:=cell_grown (a:=⟨lb,0,none⟩) hlt l0
 have e1:=cell_grown (a:=⟨lb,1,none⟩) hlt l1
 have e2:=cell_grown (a:=⟨Bk 0,2,none⟩) (hN.lt 0 (by omega)) k2
 have e3:=cell_grown (a:=⟨Bk 1,3,none⟩) (hN.lt 1 (by omega)) a3
 have e4:=cell_grown (a:=⟨Bk 1,4,none⟩) (hN.lt 1 (by omega)) a4
 clear l0 l1 k2 a3 a4
 have HN:Hid (FM x w0 Bk (.slice (some ⟨b,off,none⟩) 1 q) (VS c sp ⟨s0,vf0,vt0,-1,-1,h0,b0⟩ B C y0 y1 m0 m1) W1):=hN
 have HL:Hid (Blk 171 W1 lb [.int .i64 1,.int .i64 0]):=hL
 clear hN hL
 go_quiet_grown (first | (go_at_call 193;refine Calls.grown_of (QdO _ 1 0 rfl _)))
 obtain⟨W2,hW2⟩:∃ W,Go.Sort.grow (W1.drewN nq) osq=W:=⟨_,rfl⟩
 have hg2:Below W1.heap.size W1 W2:=Grew.below ⟨nq,osq,hW2.symm⟩
 have hM2:FM x w0 Bk (.slice (some ⟨b,off,none⟩) 1 q) (VS c sp ⟨s0,vf0,vt0,-1,-1,h0,b0⟩ B C y0 y1 m0 m1) W2:=HN.out.go (by omega) hg2
 have hL2:Blk 171 W2 lb [.int .i64 1,.int .i64 0]:=HL.out.go hg2
 show Exit.then _ _ Exit.normal _ (Go.Sort.grow (W1.drewN nq) osq)
 rw [hW2]
 clear hW2 hg2 e0 e1 e2 e3 e4 HN HL
 have l0:=hL2.cell (j:=0) rfl
 have l1:=hL2.cell (j:=1) rfl
 have k2:=hM2.cell 0 2 (by omega) rfl
 have a3:=hM2.cell 1 3 (by omega) rfl
 have a4:=hM2.cell 1 4 (by omega) rfl
 have f3:=hM2.frozen 1 3 (by omega)
 have f4:=hM2.frozen 1 4 (by omega)
 have d1:Bk 0≠Bk 1:=HP.out.ne (by omega) (by omega) (by omega)
 have d2:lb≠Bk 1:=by omega
 have HM3:Hid (FM x w0 Bk (.slice (some ⟨b,off,none⟩) 1 q) (VS c sp ⟨s0,vf0,vt0,1,0,h0,b0⟩ B C y0 y1 m0 m1) ((W2.setCell ⟨Bk 1,3,none⟩ (.int .i64 1)).setCell ⟨Bk 1,4,none⟩ (.int .i64 0))):=(hM2.setN HP.out 3 _).setN HP.out 4 _
 clear hM2 hL2
 go_wp2
 go_big_region_o
 go_wp2
 exact bodyPost_end (results_none rfl _ _ _) rfl ⟨rfl,HM3.out.drew⟩
theorem QpO (hP:FP x w0 Bk b off c)(hA1:B.nf = -1)(hA2:B.nt = -1)(w:World)(hM:FM x w0 Bk (.slice (some ⟨b,off,none⟩) 1 q) (VS c sp A B C y0 y1 m0 m1) w):Calls Tryz.prog 174 #[.pointer (some ⟨Bk 0,0,none⟩),.int .i64 1,.agg #[.int .i64 0,.int .i64 1]] w fun e w'=>e = .returned (.tuple #[])∧FM x w0 Bk (.slice (some ⟨b,off,none⟩) 1 q) (VS c sp A { B with nf:=0,nt:=1 } C y0 y1 m0 m1) w':=by
 have hmix:=mixed
 have hx:x≤w.heap.size:=by have h1:=hM.lt 0 (by omega);have h2:=hP.lo 0 (by omega);omega
 have hal:Below w.heap.size w (w.alloc (.cells #[.int .i64 0,.int .i64 1] 171)):=YD.alloc YA _
 have hL:Blk 171 (w.alloc (.cells #[.int .i64 0,.int .i64 1] 171)) w.heap.size [.int .i64 0,.int .i64 1]:=heap_alloc_new w _
 have hN:=hM.go hx hal
 have hfl:=hM.lt 1 (by omega)
 obtain⟨s0,vf0,vt0,nf0,nt0,h0,b0⟩:=B
 simp only at hA1 hA2
 subst hA1 hA2
 have HP:Hid _:=hP
 clear hM hP hal
 go_enter Tryz.func174,Tryz.ntmps174
 go_wp2
 obtain⟨W1,hW1⟩:∃ W,w.alloc (.cells #[.int .i64 0,.int .i64 1] 171)=W:=⟨_,rfl⟩
 rw [hW1] at hN hL ⊢
 obtain⟨lb,hlb⟩:∃ n,w.heap.size=n:=⟨_,rfl⟩
 rw [hlb] at hL hfl hx ⊢
 clear hW1 hlb
 have l0:=hL.cell (j:=0) rfl
 have l1:=hL.cell (j:=1) rfl
 have k2:=hN.cell 0 2 (by omega) rfl
 have a3:=hN.cell 1 13 (by omega) rfl
 have a4:=hN.cell 1 14 (by omega) rfl
 have hlt:=hL.lt
 have e0:=cell_grown (a:=⟨lb,0,none⟩) hlt l0
 have e1:=cell_grown (a:=⟨lb,1,none⟩) hlt l1
 have e2:=cell_grown (a:=⟨Bk 0,2,none⟩) (hN.lt 0 (by omega)) k2
 have e3:=cell_grown (a:=⟨Bk 1,13,none⟩) (hN.lt 1 (by omega)) a3
 have e4:=cell_grown (a:=⟨Bk 1,14,none⟩) (hN.lt 1 (by omega)) a4
 clear l0 l1 k2 a3 a4
 have HN:Hid (FM x w0 Bk (.slice (some ⟨b,off,none⟩) 1 q) (VS c sp A ⟨s0,vf0,vt0,-1,-1,h0,b0⟩ C y0 y1 m0 m1) W1):=hN
 have HL:Hid (Blk 171 W1 lb [.int .i64 0,.int .i64 1]):=hL
 clear hN hL
 go_quiet_grown (first | (go_at_call 193;refine Calls.grown_of (QdO _ 0 1 rfl _)))
 obtain⟨W2,hW2⟩:∃ W,Go.Sort.grow (W1.drewN nq) osq=W:=⟨_,rfl⟩
 have hg2:Below W1.heap.size W1 W2:=Grew.below ⟨nq,osq,hW2.symm⟩
 have hM2:FM x w0 Bk (.slice (some ⟨b,off,none⟩) 1 q) (VS c sp A ⟨s0,vf0,vt0,-1,-1,h0,b0⟩ C y0 y1 m0 m1) W2:=HN.out.go (by omega) hg2
 have hL2:Blk 171 W2 lb [.int .i64 0,.int .i64 1]:=HL.out.go hg2
 show Exit.then _ _ Exit.normal _ (Go.Sort.grow (W1.drewN nq) osq)
 rw [hW2]
 clear hW2 hg2 e0 e1 e2 e3 e4 HN HL
 have l0:=hL2.cell (j:=0) rfl
 have l1:=hL2.cell (j:=1) rfl
 have k2:=hM2.cell 0 2 (by omega) rfl
 have a3:=hM2.cell 1 13 (by omega) rfl
 have a4:=hM2.cell 1 14 (by omega) rfl
 have f3:=hM2.frozen 1 13 (by omega)
 have f4:=hM2.frozen 1 14 (by omega)
 have d1:Bk 0≠Bk 1:=HP.out.ne (by omega) (by omega) (by omega)
 have d2:lb≠Bk 1:=by omega
 have HM3:Hid (FM x w0 Bk (.slice (some ⟨b,off,none⟩) 1 q) (VS c sp A ⟨s0,vf0,vt0,0,1,h0,b0⟩ C y0 y1 m0 m1) ((W2.setCell ⟨Bk 1,13,none⟩ (.int .i64 0)).setCell ⟨Bk 1,14,none⟩ (.int .i64 1))):=(hM2.setN HP.out 13 _).setN HP.out 14 _
 clear hM2 hL2
 go_wp2
 go_big_region_o
 go_wp2
 exact bodyPost_end (results_none rfl _ _ _) rfl ⟨rfl,HM3.out.drew⟩
end
def A0:ND:=⟨0,-1,-1,-1,-1,-1,0⟩
def B0:ND:=⟨0,-1,-1,-1,-1,-1,1⟩
def C0:ND:=⟨0,-1,-1,-1,-1,-2,0⟩
def A1:ND:=⟨1,-1,-1,-1,-1,-1,0⟩
def B1:ND:=⟨0,-1,-1,0,1,-1,1⟩
def A2:ND:=⟨1,-1,-1,1,0,-1,0⟩
def B2:ND:=⟨1,-1,-1,0,1,-1,1⟩
section
variable (x:Nat) (w0:World) (Bk:Nat→Nat) (b off c q:Nat) (sp:Value) (y0 y1 m0 m1:Int)
theorem lead0 (hP:FP x w0 Bk b off c)(w:World)(hM:FM x w0 Bk (.slice (some ⟨b,off,none⟩) 1 q) (VS c sp A0 B0 C0 y0 y1 m0 m1) w):Calls Tryz.prog 163 #[.pointer (some ⟨Bk 0,0,none⟩),.int .i64 0] w fun e w'=>e = .returned (.tuple #[])∧FM x w0 Bk (.slice (some ⟨b,off,none⟩) 1 q) (VS c sp A1 B1 C0 y0 y1 m0 m1) w':=by
 have HP:Hid _:=hP
 have k2:=hM.cell 0 2 (by omega) rfl
 have a0:=hM.cell 1 0 (by omega) rfl
 have f0:=hM.frozen 1 0 (by omega)
 have d1:Bk 0≠Bk 1:=hP.ne (by omega) (by omega) (by omega)
 have HM1:Hid (FM x w0 Bk (.slice (some ⟨b,off,none⟩) 1 q) (VS c sp A1 B0 C0 y0 y1 m0 m1) (w.setCell ⟨Bk 1,0,none⟩ (.int .i64 1))):=hM.setN hP 0 _
 clear hM hP
 go_enter Tryz.func163,Tryz.ntmps163
 go_wp2
 go_loopw [17] (fun i wr=>(i = .int .i64 0∧FM x w0 Bk (.slice (some ⟨b,off,none⟩) 1 q) (VS c sp A1 B0 C0 y0 y1 m0 m1) wr)∨(i = .int .i64 1∧FM x w0 Bk (.slice (some ⟨b,off,none⟩) 1 q) (VS c sp A1 B0 C0 y0 y1 m0 m1) wr)∨(i = .int .i64 2∧FM x w0 Bk (.slice (some ⟨b,off,none⟩) 1 q) (VS c sp A1 B1 C0 y0 y1 m0 m1) wr)∨(i = .int .i64 3∧FM x w0 Bk (.slice (some ⟨b,off,none⟩) 1 q) (VS c sp A1 B1 C0 y0 y1 m0 m1) wr)) (fun i _=>3-(intOf i).toNat)
 case atStart=>exact .inl ⟨rfl,HM1.out⟩
 case round=>
  clear HM1 k2 a0 f0
  rcases hrel with ⟨rfl,hM⟩ | ⟨rfl,hM⟩ | ⟨rfl,hM⟩ | ⟨rfl,hM⟩
  ·have HM:Hid (FM x w0 Bk (.slice (some ⟨b,off,none⟩) 1 q) (VS c sp A1 B0 C0 y0 y1 m0 m1) wr):=hM
   clear hM
   go_wp2
   exact⟨.inr (.inl ⟨rfl,HM.out⟩),by simp [intOf]⟩
  ·have k2:=hM.cell 0 9 (by omega) rfl
   have k3:=hM.cell 11 0 (by omega) rfl
   have e0:=hM.cell 12 2 (by omega) rfl
   have e1:=hM.cell 12 3 (by omega) rfl
   have ht:=Qmf x w0 Bk b off c q sp _ _ _ _ _ _ _ wr hM
   have ho:=QpO x w0 Bk b off c q sp _ _ _ _ _ _ _ HP.out rfl rfl wr hM
   have ht2:Calls Tryz.prog 162 #[.pointer (some ⟨Bk 0,0,none⟩),.int .i64 1] wr fun e w'=>e = .returned (.bool true)∧w'=wr:=ht
   clear hM ht
   go_wp2_with fail
   refine ht2.mono ?_
   rintro e w2 ⟨rfl,rfl⟩
   go_wp2_with fail
   refine ho.mono ?_
   rintro e w3 ⟨rfl,hM3⟩
   have HM3:Hid (FM x w0 Bk (.slice (some ⟨b,off,none⟩) 1 q) (VS c sp A1 B1 C0 y0 y1 m0 m1) w3):=hM3
   clear ho ht2 hM3
   go_wp2
   exact⟨.inr (.inr (.inl ⟨rfl,HM3.out⟩)),by simp [intOf]⟩
  ·have ht:=Qg4 x w0 Bk b off c q sp _ _ _ _ _ _ _ wr hM
   have ht2:Calls Tryz.prog 162 #[.pointer (some ⟨Bk 0,0,none⟩),.int .i64 2] wr fun e w'=>e = .returned (.bool false)∧w'=wr:=ht
   have HM:Hid (FM x w0 Bk (.slice (some ⟨b,off,none⟩) 1 q) (VS c sp A1 B1 C0 y0 y1 m0 m1) wr):=hM
   clear hM ht
   go_wp2_with fail
   refine ht2.mono ?_
   rintro e w2 ⟨rfl,rfl⟩
   go_wp2
   exact⟨.inr (.inr (.inr ⟨rfl,HM.out⟩)),by simp [intOf]⟩
  ·have HM:Hid (FM x w0 Bk (.slice (some ⟨b,off,none⟩) 1 q) (VS c sp A1 B1 C0 y0 y1 m0 m1) wr):=hM
   clear hM
   go_wp2
   exact bodyPost_end (results_none rfl _ _ _) rfl ⟨rfl,HM.out⟩
theorem lead1 (hP:FP x w0 Bk b off c)(w:World)(hM:FM x w0 Bk (.slice (some ⟨b,off,none⟩) 1 q) (VS c sp A1 B1 C0 y0 y1 m0 m1) w):Calls Tryz.prog 163 #[.pointer (some ⟨Bk 0,0,none⟩),.int .i64 1] w fun e w'=>e = .returned (.tuple #[])∧FM x w0 Bk (.slice (some ⟨b,off,none⟩) 1 q) (VS c sp A2 B2 C0 y0 y1 m0 m1) w':=by
 have HP:Hid _:=hP
 have k2:=hM.cell 0 2 (by omega) rfl
 have a0:=hM.cell 1 10 (by omega) rfl
 have f0:=hM.frozen 1 10 (by omega)
 have d1:Bk 0≠Bk 1:=hP.ne (by omega) (by omega) (by omega)
 have HM1:Hid (FM x w0 Bk (.slice (some ⟨b,off,none⟩) 1 q) (VS c sp A1 B2 C0 y0 y1 m0 m1) (w.setCell ⟨Bk 1,10,none⟩ (.int .i64 1))):=hM.setN hP 10 _
 clear hM hP
 go_enter Tryz.func163,Tryz.ntmps163
 go_wp2
 go_loopw [17] (fun i wr=>(i = .int .i64 0∧FM x w0 Bk (.slice (some ⟨b,off,none⟩) 1 q) (VS c sp A1 B2 C0 y0 y1 m0 m1) wr)∨(i = .int .i64 1∧FM x w0 Bk (.slice (some ⟨b,off,none⟩) 1 q) (VS c sp A2 B2 C0 y0 y1 m0 m1) wr)∨(i = .int .i64 2∧FM x w0 Bk (.slice (some ⟨b,off,none⟩) 1 q) (VS c sp A2 B2 C0 y0 y1 m0 m1) wr)∨(i = .int .i64 3∧FM x w0 Bk (.slice (some ⟨b,off,none⟩) 1 q) (VS c sp A2 B2 C0 y0 y1 m0 m1) wr)) (fun i _=>3-(intOf i).toNat)
 case atStart=>exact .inl ⟨rfl,HM1.out⟩
 case round=>
  clear HM1 k2 a0 f0
  rcases hrel with ⟨rfl,hM⟩ | ⟨rfl,hM⟩ | ⟨rfl,hM⟩ | ⟨rfl,hM⟩
  ·have k2:=hM.cell 0 9 (by omega) rfl
   have k3:=hM.cell 11 1 (by omega) rfl
   have e0:=hM.cell 13 0 (by omega) rfl
   have e1:=hM.cell 13 1 (by omega) rfl
   have ht:=Qmg x w0 Bk b off c q sp _ _ _ _ _ _ _ wr hM
   have ho:=QpP x w0 Bk b off c q sp _ _ _ _ _ _ _ HP.out rfl rfl wr hM
   have ht2:Calls Tryz.prog 162 #[.pointer (some ⟨Bk 0,0,none⟩),.int .i64 0] wr fun e w'=>e = .returned (.bool true)∧w'=wr:=ht
   clear hM ht
   go_wp2_with fail
   refine ht2.mono ?_
   rintro e w2 ⟨rfl,rfl⟩
   go_wp2_with fail
   refine ho.mono ?_
   rintro e w3 ⟨rfl,hM3⟩
   have HM3:Hid (FM x w0 Bk (.slice (some ⟨b,off,none⟩) 1 q) (VS c sp A2 B2 C0 y0 y1 m0 m1) w3):=hM3
   clear ho ht2 hM3
   go_wp2
   exact⟨.inr (.inl ⟨rfl,HM3.out⟩),by simp [intOf]⟩
  ·have HM:Hid (FM x w0 Bk (.slice (some ⟨b,off,none⟩) 1 q) (VS c sp A2 B2 C0 y0 y1 m0 m1) wr):=hM
   clear hM
   go_wp2
   exact⟨.inr (.inr (.inl ⟨rfl,HM.out⟩)),by simp [intOf]⟩
  ·have ht:=Qg4 x w0 Bk b off c q sp _ _ _ _ _ _ _ wr hM
   have ht2:Calls Tryz.prog 162 #[.pointer (some ⟨Bk 0,0,none⟩),.int .i64 2] wr fun e w'=>e = .returned (.bool false)∧w'=wr:=ht
   have HM:Hid (FM x w0 Bk (.slice (some ⟨b,off,none⟩) 1 q) (VS c sp A2 B2 C0 y0 y1 m0 m1) wr):=hM
   clear hM ht
   go_wp2_with fail
   refine ht2.mono ?_
   rintro e w2 ⟨rfl,rfl⟩
   go_wp2
   exact⟨.inr (.inr (.inr ⟨rfl,HM.out⟩)),by simp [intOf]⟩
  ·have HM:Hid (FM x w0 Bk (.slice (some ⟨b,off,none⟩) 1 q) (VS c sp A2 B2 C0 y0 y1 m0 m1) wr):=hM
   clear hM
   go_wp2
   exact bodyPost_end (results_none rfl _ _ _) rfl ⟨rfl,HM.out⟩
end
end Go.Proofs.YtalflecmadacaaaGreat
