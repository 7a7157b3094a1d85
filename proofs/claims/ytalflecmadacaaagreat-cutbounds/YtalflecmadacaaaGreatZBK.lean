import Derived.Test.YtalflecmadacaaaGreatZBJ
import Derived.Deep.LoopGhost
import Derived.Test.YtalflecmadacaaaGreatZAK
import Derived.Test.YtalflecmadacaaaGreatZAA
set_option maxRecDepth 100000
set_option maxHeartbeats 8000000
namespace Go.Proofs.YtalflecmadacaaaGreat
open Go Go.Proofs Go.RowKit
section
variable (x:Nat) (w0:World) (Bk:Nat→Nat) (b off c q:Nat) (sp:Value)
theorem FP.le (hP:FP x w0 Bk b off c){ev:Value}{V:FV}{w:World}(hM:FM x w0 Bk ev V w):x≤w.heap.size:=by
 have h1:=hM.lt 0 (by omega)
 have h2:=hP.lo 0 (by omega)
 omega
theorem room0 (hP:FP x w0 Bk b off c)(w:World)(hM:FM x w0 Bk (.slice (some ⟨b,off,none⟩) 1 q) (VS c sp A2 B2 C0 (-(c:Int)) (-(c:Int)) (-1) (-1)) w):Calls Tryz.prog 164 #[.pointer (some ⟨Bk 0,0,none⟩),.int .i64 0] w fun e w'=>e = .returned (.int .i64 0)∧Below w.heap.size w w':=by
 have hc:=hP.small
 have hxw:=FP.le x w0 Bk b off c hP hM
 have k2:=hM.cell 0 2 (by omega) rfl
 have n0:w.cell? ⟨Bk 1,0,none⟩=some (.int .i64 1):=hM.cell 1 0 (by omega) rfl
 have n1:w.cell? ⟨Bk 1,1,none⟩=some (.int .i64 (-1)):=hM.cell 1 1 (by omega) rfl
 have n2:w.cell? ⟨Bk 1,2,none⟩=some (.int .i64 (-1)):=hM.cell 1 2 (by omega) rfl
 have n3:w.cell? ⟨Bk 1,3,none⟩=some (.int .i64 1):=hM.cell 1 3 (by omega) rfl
 have n4:w.cell? ⟨Bk 1,4,none⟩=some (.int .i64 0):=hM.cell 1 4 (by omega) rfl
 have n5:w.cell? ⟨Bk 1,5,none⟩=some (.int .i64 (-1)):=hM.cell 1 5 (by omega) rfl
 have n6:w.cell? ⟨Bk 1,6,none⟩=some (.int .i64 0):=hM.cell 1 6 (by omega) rfl
 have n7:w.cell? ⟨Bk 1,7,none⟩=some (.slice none 0 0):=hM.cell 1 7 (by omega) rfl
 have n8:w.cell? ⟨Bk 1,8,none⟩=some (.slice none 0 0):=hM.cell 1 8 (by omega) rfl
 have n9:w.cell? ⟨Bk 1,9,none⟩=some (.int .i64 0):=hM.cell 1 9 (by omega) rfl
 have hal:Below w.heap.size w (w.alloc (.cells #[.int .i64 1,.int .i64 (-1),.int .i64 (-1),.int .i64 1,.int .i64 0,.int .i64 (-1),.int .i64 0,.slice none 0 0,.slice none 0 0,.int .i64 0] 178)):=YD.alloc YA _
 have hN:=hM.go hxw hal
 have hB:Blk 178 (w.alloc (.cells #[.int .i64 1,.int .i64 (-1),.int .i64 (-1),.int .i64 1,.int .i64 0,.int .i64 (-1),.int .i64 0,.slice none 0 0,.slice none 0 0,.int .i64 0] 178)) w.heap.size [.int .i64 1,.int .i64 (-1),.int .i64 (-1),.int .i64 1,.int .i64 0,.int .i64 (-1),.int .i64 0,.slice none 0 0,.slice none 0 0,.int .i64 0]:=heap_alloc_new w _
 have hit:∀ W,Calls Tryz.prog 175 #[.agg #[.int .i64 1,.int .i64 0]] W fun e w'=>e = .returned (.bool true)∧Grew W w':=fun W=>QaQ _ _ W
 have HN:Hid (FM x w0 Bk (.slice (some ⟨b,off,none⟩) 1 q) (VS c sp A2 B2 C0 (-(c:Int)) (-(c:Int)) (-1) (-1)) (w.alloc (.cells #[.int .i64 1,.int .i64 (-1),.int .i64 (-1),.int .i64 1,.int .i64 0,.int .i64 (-1),.int .i64 0,.slice none 0 0,.slice none 0 0,.int .i64 0] 178))):=hN
 have HB:Hid (Blk 178 (w.alloc (.cells #[.int .i64 1,.int .i64 (-1),.int .i64 (-1),.int .i64 1,.int .i64 0,.int .i64 (-1),.int .i64 0,.slice none 0 0,.slice none 0 0,.int .i64 0] 178)) w.heap.size [.int .i64 1,.int .i64 (-1),.int .i64 (-1),.int .i64 1,.int .i64 0,.int .i64 (-1),.int .i64 0,.slice none 0 0,.slice none 0 0,.int .i64 0]):=hB
 have HAL:Hid _:=hal
 have hs1:(w.alloc (.cells #[.int .i64 1,.int .i64 (-1),.int .i64 (-1),.int .i64 1,.int .i64 0,.int .i64 (-1),.int .i64 0,.slice none 0 0,.slice none 0 0,.int .i64 0] 178)).heap.size=w.heap.size+1:=by simp
 have HS1:Hid _:=hs1
 clear hM hN hB hal hP hs1
 go_enter Tryz.func164,Tryz.ntmps164
 go_wp2_with fail
 refine (hit _).mono ?_
 rintro e w3 ⟨rfl,hg3⟩
 have hb3:=hg3.below
 have hB3:=HB.out.go hb3
 have hM3:=HN.out.go (by rw [HS1.out];omega) hb3
 have l0:=hB3.cell (j:=3) rfl
 have l1:=hB3.cell (j:=4) rfl
 have hsl:=Qo6 x w0 Bk b off c q sp A2 B2 C0 (-1) (-1) hc w3 hM3 (by have:=hb3.size;rw [HS1.out] at this;omega)
 have HF:Hid (Below w.heap.size w w3):=HAL.out.trans (hb3.mono HAL.out.size)
 clear hg3 hb3 hB3 hM3 hit
 go_wp2_with fail
 refine hsl.mono ?_
 rintro e w4 ⟨rfl,hb4⟩
 clear hsl
 go_wp2
 go_ret
 exact⟨rfl,HF.out.trans (hb4.mono HF.out.size)⟩
theorem room1 (hP:FP x w0 Bk b off c)(w:World)(hM:FM x w0 Bk (.slice (some ⟨b,off,none⟩) 1 q) (VS c sp A2 B2 C0 (-(c:Int)) (-(c:Int)) (-1) (-1)) w):Calls Tryz.prog 164 #[.pointer (some ⟨Bk 0,0,none⟩),.int .i64 1] w fun e w'=>e = .returned (.int .i64 0)∧Below w.heap.size w w':=by
 have hc:=hP.small
 have hxw:=FP.le x w0 Bk b off c hP hM
 have k2:=hM.cell 0 2 (by omega) rfl
 have n0:w.cell? ⟨Bk 1,10,none⟩=some (.int .i64 1):=hM.cell 1 10 (by omega) rfl
 have n1:w.cell? ⟨Bk 1,11,none⟩=some (.int .i64 (-1)):=hM.cell 1 11 (by omega) rfl
 have n2:w.cell? ⟨Bk 1,12,none⟩=some (.int .i64 (-1)):=hM.cell 1 12 (by omega) rfl
 have n3:w.cell? ⟨Bk 1,13,none⟩=some (.int .i64 0):=hM.cell 1 13 (by omega) rfl
 have n4:w.cell? ⟨Bk 1,14,none⟩=some (.int .i64 1):=hM.cell 1 14 (by omega) rfl
 have n5:w.cell? ⟨Bk 1,15,none⟩=some (.int .i64 (-1)):=hM.cell 1 15 (by omega) rfl
 have n6:w.cell? ⟨Bk 1,16,none⟩=some (.int .i64 1):=hM.cell 1 16 (by omega) rfl
 have n7:w.cell? ⟨Bk 1,17,none⟩=some (.slice none 0 0):=hM.cell 1 17 (by omega) rfl
 have n8:w.cell? ⟨Bk 1,18,none⟩=some (.slice none 0 0):=hM.cell 1 18 (by omega) rfl
 have n9:w.cell? ⟨Bk 1,19,none⟩=some (.int .i64 0):=hM.cell 1 19 (by omega) rfl
 have hal:Below w.heap.size w (w.alloc (.cells #[.int .i64 1,.int .i64 (-1),.int .i64 (-1),.int .i64 0,.int .i64 1,.int .i64 (-1),.int .i64 1,.slice none 0 0,.slice none 0 0,.int .i64 0] 178)):=YD.alloc YA _
 have hN:=hM.go hxw hal
 have hB:Blk 178 (w.alloc (.cells #[.int .i64 1,.int .i64 (-1),.int .i64 (-1),.int .i64 0,.int .i64 1,.int .i64 (-1),.int .i64 1,.slice none 0 0,.slice none 0 0,.int .i64 0] 178)) w.heap.size [.int .i64 1,.int .i64 (-1),.int .i64 (-1),.int .i64 0,.int .i64 1,.int .i64 (-1),.int .i64 1,.slice none 0 0,.slice none 0 0,.int .i64 0]:=heap_alloc_new w _
 have hit:∀ W,Calls Tryz.prog 175 #[.agg #[.int .i64 0,.int .i64 1]] W fun e w'=>e = .returned (.bool true)∧Grew W w':=fun W=>QaQ _ _ W
 have HN:Hid (FM x w0 Bk (.slice (some ⟨b,off,none⟩) 1 q) (VS c sp A2 B2 C0 (-(c:Int)) (-(c:Int)) (-1) (-1)) (w.alloc (.cells #[.int .i64 1,.int .i64 (-1),.int .i64 (-1),.int .i64 0,.int .i64 1,.int .i64 (-1),.int .i64 1,.slice none 0 0,.slice none 0 0,.int .i64 0] 178))):=hN
 have HB:Hid (Blk 178 (w.alloc (.cells #[.int .i64 1,.int .i64 (-1),.int .i64 (-1),.int .i64 0,.int .i64 1,.int .i64 (-1),.int .i64 1,.slice none 0 0,.slice none 0 0,.int .i64 0] 178)) w.heap.size [.int .i64 1,.int .i64 (-1),.int .i64 (-1),.int .i64 0,.int .i64 1,.int .i64 (-1),.int .i64 1,.slice none 0 0,.slice none 0 0,.int .i64 0]):=hB
 have HAL:Hid _:=hal
 have hs1:(w.alloc (.cells #[.int .i64 1,.int .i64 (-1),.int .i64 (-1),.int .i64 0,.int .i64 1,.int .i64 (-1),.int .i64 1,.slice none 0 0,.slice none 0 0,.int .i64 0] 178)).heap.size=w.heap.size+1:=by simp
 have HS1:Hid _:=hs1
 clear hM hN hB hal hP hs1
 go_enter Tryz.func164,Tryz.ntmps164
 go_wp2_with fail
 refine (hit _).mono ?_
 rintro e w3 ⟨rfl,hg3⟩
 have hb3:=hg3.below
 have hB3:=HB.out.go hb3
 have hM3:=HN.out.go (by rw [HS1.out];omega) hb3
 have l0:=hB3.cell (j:=3) rfl
 have l1:=hB3.cell (j:=4) rfl
 have hsl:=Qo7 x w0 Bk b off c q sp A2 B2 C0 (-1) (-1) hc w3 hM3 (by have:=hb3.size;rw [HS1.out] at this;omega)
 have HF:Hid (Below w.heap.size w w3):=HAL.out.trans (hb3.mono HAL.out.size)
 clear hg3 hb3 hB3 hM3 hit
 go_wp2_with fail
 refine hsl.mono ?_
 rintro e w4 ⟨rfl,hb4⟩
 clear hsl
 go_wp2
 go_ret
 exact⟨rfl,HF.out.trans (hb4.mono HF.out.size)⟩
end
section
variable (x:Nat) (w0:World) (Bk:Nat→Nat) (b off c q:Nat) (sp:Value)
theorem QlR (hP:FP x w0 Bk b off c)(w:World)(hM:FM x w0 Bk (.slice (some ⟨b,off,none⟩) 1 q) (VS c sp A2 B2 C0 (-(c:Int)) (-(c:Int)) (-1) (-1)) w):Calls Tryz.prog 143 #[.pointer (some ⟨Bk 0,0,none⟩)] w fun e w'=>e = .returned (.tuple #[.int .i64 0,.int .i64 0])∧FM x w0 Bk (.slice (some ⟨b,off,none⟩) 1 q) (VS c sp A2 B2 C0 (-(c:Int)) (-(c:Int)) (-1) (-1)) w':=by
 have HP:Hid (FP x w0 Bk b off c):=hP
 have k2:=hM.cell 0 2 (by omega) rfl
 have HM:Hid (FM x w0 Bk (.slice (some ⟨b,off,none⟩) 1 q) (VS c sp A2 B2 C0 (-(c:Int)) (-(c:Int)) (-1) (-1)) w):=hM
 clear hM hP
 go_enter Tryz.func143,Tryz.ntmps143
 go_wp2
 go_loopw [2,3,11] (fun a f i wr=>((i = .int .i64 0∧a = .int .i64 (-1)∧f = .int .i64 9223372036854775807)∨((i = .int .i64 1∨i = .int .i64 2∨i = .int .i64 3)∧a = .int .i64 0∧f = .int .i64 0))∧FM x w0 Bk (.slice (some ⟨b,off,none⟩) 1 q) (VS c sp A2 B2 C0 (-(c:Int)) (-(c:Int)) (-1) (-1)) wr) (fun _ _ i _=>3-(intOf i).toNat)
 case atStart=>exact⟨.inl ⟨rfl,rfl,rfl⟩,HM.out⟩
 case round=>
  clear HM k2
  obtain⟨hor,hM⟩:=hrel
  have hxw:=FP.le x w0 Bk b off c HP.out hM
  rcases hor with ⟨rfl,rfl,rfl⟩ | ⟨rfl | rfl | rfl,rfl,rfl⟩
  ·have ht:Calls Tryz.prog 162 #[.pointer (some ⟨Bk 0,0,none⟩),.int .i64 0] wr fun e w'=>e = .returned (.bool true)∧w'=wr:=Qmg x w0 Bk b off c q sp A2 B2 C0 (-(c:Int)) (-(c:Int)) (-1) (-1) wr hM
   have hr:=room0 x w0 Bk b off c q sp HP.out wr hM
   have HM:Hid (∀ w',Below wr.heap.size wr w'→FM x w0 Bk (.slice (some ⟨b,off,none⟩) 1 q) (VS c sp A2 B2 C0 (-(c:Int)) (-(c:Int)) (-1) (-1)) w'):=fun w' h=>hM.go hxw h
   clear hM
   go_wp2_with fail
   refine ht.mono ?_
   rintro e w2 ⟨rfl,rfl⟩
   go_wp2_with fail
   refine hr.mono ?_
   rintro e w3 ⟨rfl,hb3⟩
   have HM3:Hid (FM x w0 Bk (.slice (some ⟨b,off,none⟩) 1 q) (VS c sp A2 B2 C0 (-(c:Int)) (-(c:Int)) (-1) (-1)) w3):=HM.out w3 hb3
   clear ht hr hb3 HM
   go_wp2
   exact⟨⟨.inr ⟨.inl rfl,rfl,rfl⟩,HM3.out⟩,by simp [intOf]⟩
  ·have ht:Calls Tryz.prog 162 #[.pointer (some ⟨Bk 0,0,none⟩),.int .i64 1] wr fun e w'=>e = .returned (.bool true)∧w'=wr:=Qmf x w0 Bk b off c q sp A2 B2 C0 (-(c:Int)) (-(c:Int)) (-1) (-1) wr hM
   have hr:=room1 x w0 Bk b off c q sp HP.out wr hM
   have HM:Hid (∀ w',Below wr.heap.size wr w'→FM x w0 Bk (.slice (some ⟨b,off,none⟩) 1 q) (VS c sp A2 B2 C0 (-(c:Int)) (-(c:Int)) (-1) (-1)) w'):=fun w' h=>hM.go hxw h
   clear hM
   go_wp2_with fail
   refine ht.mono ?_
   rintro e w2 ⟨rfl,rfl⟩
   go_wp2_with fail
   refine hr.mono ?_
   rintro e w3 ⟨rfl,hb3⟩
   have HM3:Hid (FM x w0 Bk (.slice (some ⟨b,off,none⟩) 1 q) (VS c sp A2 B2 C0 (-(c:Int)) (-(c:Int)) (-1) (-1)) w3):=HM.out w3 hb3
   clear ht hr hb3 HM
   go_wp2
   exact⟨⟨.inr ⟨.inr (.inl rfl),rfl,rfl⟩,HM3.out⟩,by simp [intOf]⟩
  ·have ht:Calls Tryz.prog 162 #[.pointer (some ⟨Bk 0,0,none⟩),.int .i64 2] wr fun e w'=>e = .returned (.bool false)∧w'=wr:=Qg4 x w0 Bk b off c q sp A2 B2 C0 (-(c:Int)) (-(c:Int)) (-1) (-1) wr hM
   have HM:Hid (FM x w0 Bk (.slice (some ⟨b,off,none⟩) 1 q) (VS c sp A2 B2 C0 (-(c:Int)) (-(c:Int)) (-1) (-1)) wr):=hM
   clear hM
   go_wp2_with fail
   refine ht.mono ?_
   rintro e w2 ⟨rfl,rfl⟩
   go_wp2
   exact⟨⟨.inr ⟨.inr (.inr rfl),rfl,rfl⟩,HM.out⟩,by simp [intOf]⟩
  ·have HM:Hid (FM x w0 Bk (.slice (some ⟨b,off,none⟩) 1 q) (VS c sp A2 B2 C0 (-(c:Int)) (-(c:Int)) (-1) (-1)) wr):=hM
   clear hM
   go_wp2
   go_ret2
   exact⟨rfl,HM.out⟩
theorem QlW (hP:FP x w0 Bk b off c)(w:World)(hM:FM x w0 Bk (.slice (some ⟨b,off,none⟩) 1 q) (VS c sp A2 B2 C0 (-(c:Int)) (-(c:Int)) (-1) (-1)) w):Calls Tryz.prog 144 #[.pointer (some ⟨Bk 0,0,none⟩),.int .i64 0] w fun e w'=>e = .returned (.tuple #[])∧FM x w0 Bk (.slice (some ⟨b,off,none⟩) 1 q) (VS c sp A2 B2 C0 (-(c:Int)) (-(c:Int)) (-1) (-1)) w':=by
 have hmix:=mixed
 have hc:=hP.small
 have HP:Hid (FP x w0 Bk b off c):=hP
 have k0:=hM.cell 0 0 (by omega) rfl
 have HM:Hid (FM x w0 Bk (.slice (some ⟨b,off,none⟩) 1 q) (VS c sp A2 B2 C0 (-(c:Int)) (-(c:Int)) (-1) (-1)) w):=hM
 have hcl:(0:Int)≤(c:Int):=by omega
 have hcu:(c:Int)<1099511627776:=by omega
 clear hM hP
 go_enter Tryz.func144,Tryz.ntmps144
 go_wp2
 go_loopw [11] (fun i wr=>(i = .int .i64 0∨i = .int .i64 1∨i = .int .i64 2)∧FM x w0 Bk (.slice (some ⟨b,off,none⟩) 1 q) (VS c sp A2 B2 C0 (-(c:Int)) (-(c:Int)) (-1) (-1)) wr) (fun i _=>2-(intOf i).toNat)
 case atStart=>exact⟨.inl rfl,HM.out⟩
 case round=>
  clear HM k0
  obtain⟨hor,hM⟩:=hrel
  rcases hor with rfl | rfl | rfl
  ·have k2:=hM.cell 0 2 (by omega) rfl
   have k4:=hM.cell 0 4 (by omega) rfl
   have k6:=hM.cell 0 6 (by omega) rfl
   have t0:=hM.cell 4 0 (by omega) rfl
   have n0:wr.cell? ⟨Bk 1,0,none⟩=some (.int .i64 1):=hM.cell 1 0 (by omega) rfl
   have HM:Hid (FM x w0 Bk (.slice (some ⟨b,off,none⟩) 1 q) (VS c sp A2 B2 C0 (-(c:Int)) (-(c:Int)) (-1) (-1)) wr):=hM
   clear hM
   go_wp2
   go_quiet (fail)
   have hM2:=HM.out.drewN nq
   have k4:=hM2.cell 0 4 (by omega) rfl
   have y0:(wr.drewN nq).cell? ⟨Bk 2,0,none⟩=some (.int .i64 (-(c:Int))):=hM2.cell 2 0 (by omega) rfl
   have f0:=hM2.frozen 2 0 (by omega)
   have HM3:Hid (FM x w0 Bk (.slice (some ⟨b,off,none⟩) 1 q) (VS c sp A2 B2 C0 (-(c:Int)) (-(c:Int)) (-1) (-1)) ((wr.drewN nq).setCell ⟨Bk 2,0,none⟩ (.int .i64 (-(c:Int))))):=hM2.setY HP.out 0 _
   obtain⟨w5,hw5⟩:∃ W,wr.drewN nq=W:=⟨_,rfl⟩
   rw [hw5] at k4 y0 f0 HM3 ⊢
   clear hw5 hM2 HM n0 t0 k2 k6
   go_wp2
   exact⟨⟨.inr (.inl rfl),HM3.out⟩,by simp [intOf]⟩
  ·have k2:=hM.cell 0 2 (by omega) rfl
   have k4:=hM.cell 0 4 (by omega) rfl
   have k6:=hM.cell 0 6 (by omega) rfl
   have t0:=hM.cell 4 1 (by omega) rfl
   have n0:wr.cell? ⟨Bk 1,10,none⟩=some (.int .i64 1):=hM.cell 1 10 (by omega) rfl
   have HM:Hid (FM x w0 Bk (.slice (some ⟨b,off,none⟩) 1 q) (VS c sp A2 B2 C0 (-(c:Int)) (-(c:Int)) (-1) (-1)) wr):=hM
   clear hM
   go_wp2
   go_quiet (fail)
   have hM2:=HM.out.drewN nq
   have k4:=hM2.cell 0 4 (by omega) rfl
   have y0:(wr.drewN nq).cell? ⟨Bk 2,1,none⟩=some (.int .i64 (-(c:Int))):=hM2.cell 2 1 (by omega) rfl
   have f0:=hM2.frozen 2 1 (by omega)
   have HM3:Hid (FM x w0 Bk (.slice (some ⟨b,off,none⟩) 1 q) (VS c sp A2 B2 C0 (-(c:Int)) (-(c:Int)) (-1) (-1)) ((wr.drewN nq).setCell ⟨Bk 2,1,none⟩ (.int .i64 (-(c:Int))))):=hM2.setY HP.out 1 _
   obtain⟨w5,hw5⟩:∃ W,wr.drewN nq=W:=⟨_,rfl⟩
   rw [hw5] at k4 y0 f0 HM3 ⊢
   clear hw5 hM2 HM n0 t0 k2 k6
   go_wp2
   exact⟨⟨.inr (.inr rfl),HM3.out⟩,by simp [intOf]⟩
  ·have k0:=hM.cell 0 0 (by omega) rfl
   have k2:=hM.cell 0 2 (by omega) rfl
   have HM:Hid (FM x w0 Bk (.slice (some ⟨b,off,none⟩) 1 q) (VS c sp A2 B2 C0 (-(c:Int)) (-(c:Int)) (-1) (-1)) wr):=hM
   clear hM
   go_wp2
   go_loopw [5] (fun i wr=>(i = .int .i64 2∨i = .int .i64 3)∧FM x w0 Bk (.slice (some ⟨b,off,none⟩) 1 q) (VS c sp A2 B2 C0 (-(c:Int)) (-(c:Int)) (-1) (-1)) wr) (fun i _=>3-(intOf i).toNat)
   case atStart=>exact⟨.inl rfl,HM.out⟩
   case round=>
    clear HM k0 k2
    obtain⟨hor,hM⟩:=hrel
    rcases hor with rfl | rfl
    ·have ht:Calls Tryz.prog 162 #[.pointer (some ⟨Bk 0,0,none⟩),.int .i64 2] wr fun e w'=>e = .returned (.bool false)∧w'=wr:=Qg4 x w0 Bk b off c q sp A2 B2 C0 (-(c:Int)) (-(c:Int)) (-1) (-1) wr hM
     have k2:=hM.cell 0 2 (by omega) rfl
     have HM:Hid (FM x w0 Bk (.slice (some ⟨b,off,none⟩) 1 q) (VS c sp A2 B2 C0 (-(c:Int)) (-(c:Int)) (-1) (-1)) wr):=hM
     clear hM
     go_wp2_with fail
     refine ht.mono ?_
     rintro e w2 ⟨rfl,rfl⟩
     go_wp2
     exact⟨⟨.inr rfl,HM.out⟩,by simp [intOf]⟩
    ·have k2:=hM.cell 0 2 (by omega) rfl
     have HM:Hid (FM x w0 Bk (.slice (some ⟨b,off,none⟩) 1 q) (VS c sp A2 B2 C0 (-(c:Int)) (-(c:Int)) (-1) (-1)) wr):=hM
     clear hM
     go_wp2
     exact bodyPost_end (results_none rfl _ _ _) rfl ⟨rfl,HM.out⟩
end
theorem Qp3:(Tryz.prog.info? 4).map (fun i=>(i.zero,i.size,i.bytes))=some (some (.bool false),1,1):=by kernel_rfl
section
variable (x:Nat) (w0:World) (Bk:Nat→Nat) (b off c q:Nat) (sp:Value)
theorem Qp9 (w:World)(hM:FM x w0 Bk (.slice (some ⟨b,off,none⟩) 1 q) (VS c sp A2 B2 C0 (-(c:Int)) (-(c:Int)) (-1) (-1)) w):Calls Tryz.prog 196 #[.pointer (some ⟨Bk 0,0,none⟩),.int .i64 0] w fun e w'=>e = .returned (.int .i64 (-1))∧Below w.heap.size w w':=by
 have k2:=hM.cell 0 2 (by omega) rfl
 have n0:w.cell? ⟨Bk 1,1,none⟩=some (.int .i64 (-1)):=hM.cell 1 1 (by omega) rfl
 have n1:w.cell? ⟨Bk 1,2,none⟩=some (.int .i64 (-1)):=hM.cell 1 2 (by omega) rfl
 have hal:Below w.heap.size w (w.alloc (.cells #[.int .i64 (-1),.int .i64 (-1)] 171)):=YD.alloc YA _
 have hit:∀ W,Calls Tryz.prog 175 #[.agg #[.int .i64 (-1),.int .i64 (-1)]] W fun e w'=>e = .returned (.bool false)∧Grew W w':=fun W=>QaQ _ _ W
 have HAL:Hid _:=hal
 clear hM hal
 go_enter Tryz.func196,Tryz.ntmps196
 go_wp2_with fail
 refine (hit _).mono ?_
 rintro e w3 ⟨rfl,hg3⟩
 go_wp2
 go_ret
 exact⟨rfl,HAL.out.trans (hg3.below.mono HAL.out.size)⟩
theorem Qp8 (w:World)(hM:FM x w0 Bk (.slice (some ⟨b,off,none⟩) 1 q) (VS c sp A2 B2 C0 (-(c:Int)) (-(c:Int)) (-1) (-1)) w):Calls Tryz.prog 196 #[.pointer (some ⟨Bk 0,0,none⟩),.int .i64 1] w fun e w'=>e = .returned (.int .i64 (-1))∧Below w.heap.size w w':=by
 have k2:=hM.cell 0 2 (by omega) rfl
 have n0:w.cell? ⟨Bk 1,11,none⟩=some (.int .i64 (-1)):=hM.cell 1 11 (by omega) rfl
 have n1:w.cell? ⟨Bk 1,12,none⟩=some (.int .i64 (-1)):=hM.cell 1 12 (by omega) rfl
 have hal:Below w.heap.size w (w.alloc (.cells #[.int .i64 (-1),.int .i64 (-1)] 171)):=YD.alloc YA _
 have hit:∀ W,Calls Tryz.prog 175 #[.agg #[.int .i64 (-1),.int .i64 (-1)]] W fun e w'=>e = .returned (.bool false)∧Grew W w':=fun W=>QaQ _ _ W
 have HAL:Hid _:=hal
 clear hM hal
 go_enter Tryz.func196,Tryz.ntmps196
 go_wp2_with fail
 refine (hit _).mono ?_
 rintro e w3 ⟨rfl,hg3⟩
 go_wp2
 go_ret
 exact⟨rfl,HAL.out.trans (hg3.below.mono HAL.out.size)⟩
theorem QkB (hP:FP x w0 Bk b off c)(w:World)(hM:FM x w0 Bk (.slice (some ⟨b,off,none⟩) 1 q) (VS c sp A2 B2 C0 (-(c:Int)) (-(c:Int)) (-1) (-1)) w):Calls Tryz.prog 180 #[.pointer (some ⟨Bk 0,0,none⟩),.int .i64 1,.int .i64 0] w fun e w'=>e = .returned (.int .i64 (-1))∧Below w.heap.size w w':=by
 obtain⟨i0,hi,hz0,hz1,hz2⟩:=info_parts Qp3
 have hxw:=FP.le x w0 Bk b off c hP hM
 have k2:=hM.cell 0 2 (by omega) rfl
 have HM:Hid (∀ w',Below w.heap.size w w'→FM x w0 Bk (.slice (some ⟨b,off,none⟩) 1 q) (VS c sp A2 B2 C0 (-(c:Int)) (-(c:Int)) (-1) (-1)) w'):=fun w' h=>hM.go hxw h
 clear hM hP
 go_enter Tryz.func180,Tryz.ntmps180
 go_wp2_with (at_make;refine wpList_make_full _ rfl _ _ 25 rfl w.heap.size 4 i0 (.bool false) 1 Tryz.underlying25 hi hz0 hz1 .i64 .i64 _ _ 3 rfl rfl rfl rfl (by rw [hz2];omega) (by unfold maxLen;omega) YA ?_;intro w3 hown hgrow)
 have hb3:Below w.heap.size w w3:=YD.grown hgrow YA (fun k e=>by cases e)
 have hrow:=Blk.made hown
 have emd:(madeCells (Value.bool false).cells (3*1)).toList=[.bool false,.bool false,.bool false]:=by kernel_rfl
 rw [emd] at hrow
 clear emd
 have HRow:Hid (Blk 4 w3 w.heap.size [.bool false,.bool false,.bool false]):=hrow
 have HB3:Hid (Below w.heap.size w w3):=hb3
 clear hown hgrow hrow hb3 k2 hi hz0 hz1 hz2
 obtain⟨g,hg⟩:∃ g,w.heap.size=g:=⟨_,rfl⟩
 rw [hg] at HM HRow HB3 ⊢
 go_loopw [1] (fun i wr=>((i = .int .i64 1∧Blk 4 wr g [.bool false,.bool false,.bool false])∨(i = .int .i64 (-1)∧Blk 4 wr g [.bool false,.bool true,.bool false]))∧Below g w wr) (fun i _=>(intOf i+1).toNat)
 case atStart=>exact⟨.inl ⟨rfl,HRow.out⟩,HB3.out⟩
 case round=>
  obtain⟨hor,hb⟩:=hrel
  rcases hor with ⟨rfl,hB⟩ | ⟨rfl,hB⟩
  ·have t0:=hB.cell (j:=1) rfl
   have f0:=hB.frozen 1
   have hgl:=hB.lt
   have HB4:Hid (Below g w (wr.setCell ⟨g,1,none⟩ (.bool true))):=hb.setCell (p:=⟨g,1,none⟩) YA _
   have HR4:Hid (Blk 4 (wr.setCell ⟨g,1,none⟩ (.bool true)) g [.bool false,.bool true,.bool false]):=hB.set 1 _
   have hab:=Qp8 x w0 Bk b off c q sp _ (HM.out _ HB4.out)
   have hs4:(wr.setCell ⟨g,1,none⟩ (.bool true)).heap.size=wr.heap.size:=by simp
   have HS4:Hid _:=hs4
   clear hB hb hs4
   go_wp2_with fail
   refine hab.mono ?_
   rintro e w5 ⟨rfl,hb5⟩
   have HB5:Hid (Below g w w5):=HB4.out.trans (hb5.mono (by rw [HS4.out];omega))
   have HR5:Hid (Blk 4 w5 g [.bool false,.bool true,.bool false]):=HR4.out.go hb5
   clear hab hb5 t0 f0
   go_wp2
   exact⟨⟨.inr ⟨rfl,HR5.out⟩,HB5.out⟩,by simp [intOf]⟩
  ·have HB4:Hid (Below g w wr):=hb
   have HR4:Hid (Blk 4 wr g [.bool false,.bool true,.bool false]):=hB
   clear hB hb
   go_wp2
   go_loopw [2] (fun i wq=>((i = .int .i64 0∧Blk 4 wq g [.bool false,.bool true,.bool false])∨i = .int .i64 (-1))∧Below g w wq) (fun i _=>(intOf i+1).toNat)
   case atStart=>exact⟨.inl ⟨rfl,HR4.out⟩,HB4.out⟩
   case round=>
    obtain⟨hor,hb⟩:=hrel
    rcases hor with ⟨rfl,hB⟩ | rfl
    ·have t0:=hB.cell (j:=0) rfl
     have hgl:=hB.lt
     have hab:=Qp9 x w0 Bk b off c q sp _ (HM.out _ hb)
     have HB5:Hid (Below g w wr):=hb
     clear hB hb
     go_wp2_with fail
     refine hab.mono ?_
     rintro e w5 ⟨rfl,hb5⟩
     have HB6:Hid (Below g w w5):=HB5.out.trans (hb5.mono (by omega))
     clear hab hb5 t0
     go_wp2
     exact⟨⟨.inr rfl,HB6.out⟩,by simp [intOf]⟩
    ·have HB5:Hid (Below g w wr):=hb
     clear hb
     go_wp2
     go_ret
     exact⟨rfl,by rw [hg];exact HB5.out⟩
theorem Qpd (m0 m1:Int)(w:World)(hM:FM x w0 Bk (.slice (some ⟨b,off,none⟩) 1 q) (VS c sp A2 B2 C0 (-(c:Int)) (-(c:Int)) m0 m1) w):Calls Tryz.prog 200 #[.pointer (some ⟨Bk 0,0,none⟩),.int .i64 0,.int .i64 0] w fun e w'=>e = .returned (.tuple #[])∧w'=w:=by
 have k2:=hM.cell 0 2 (by omega) rfl
 have n6:w.cell? ⟨Bk 1,6,none⟩=some (.int .i64 0):=hM.cell 1 6 (by omega) rfl
 clear hM
 go_enter Tryz.func200,Tryz.ntmps200
 go_wp2
 exact bodyPost_ret (results_none rfl _ _ _) rfl ⟨rfl,rfl⟩
theorem Qpc (m0 m1:Int)(w:World)(hM:FM x w0 Bk (.slice (some ⟨b,off,none⟩) 1 q) (VS c sp A2 B2 C0 (-(c:Int)) (-(c:Int)) m0 m1) w):Calls Tryz.prog 200 #[.pointer (some ⟨Bk 0,0,none⟩),.int .i64 1,.int .i64 1] w fun e w'=>e = .returned (.tuple #[])∧w'=w:=by
 have k2:=hM.cell 0 2 (by omega) rfl
 have n6:w.cell? ⟨Bk 1,16,none⟩=some (.int .i64 1):=hM.cell 1 16 (by omega) rfl
 clear hM
 go_enter Tryz.func200,Tryz.ntmps200
 go_wp2
 exact bodyPost_ret (results_none rfl _ _ _) rfl ⟨rfl,rfl⟩
theorem flip1 (m0 m1:Int)(hP:FP x w0 Bk b off c)(w:World)(hM:FM x w0 Bk (.slice (some ⟨b,off,none⟩) 1 q) (VS c sp A2 B2 C0 (-(c:Int)) (-(c:Int)) m0 m1) w):Calls Tryz.prog 182 #[.pointer (some ⟨Bk 0,0,none⟩),.int .i64 1,.int .i64 0] w fun e w'=>e = .returned (.tuple #[])∧FM x w0 Bk (.slice (some ⟨b,off,none⟩) 1 q) (VS c sp A2 B2 C0 (-(c:Int)) (-(c:Int)) m0 0) w'∧Tch (Bk 3) w w':=by
 have hmix:=mixed
 have HP:Hid (FP x w0 Bk b off c):=hP
 have HM:Hid (FM x w0 Bk (.slice (some ⟨b,off,none⟩) 1 q) (VS c sp A2 B2 C0 (-(c:Int)) (-(c:Int)) m0 m1) w):=hM
 clear hM hP
 go_enter Tryz.func182,Tryz.ntmps182
 go_wp2
 go_loopw [1,2] (fun i j wr=>i = .int .i64 1∧j = .int .i64 0∧FM x w0 Bk (.slice (some ⟨b,off,none⟩) 1 q) (VS c sp A2 B2 C0 (-(c:Int)) (-(c:Int)) m0 m1) wr∧wr=w) (fun _ _ _=>0)
 case atStart=>exact⟨rfl,rfl,HM.out,rfl⟩
 case round=>
  clear HM
  obtain⟨rfl,rfl,hM,rfl⟩:=hrel
  have hxw:=FP.le x w0 Bk b off c HP.out hM
  have k2:=hM.cell 0 2 (by omega) rfl
  have k6:=hM.cell 0 6 (by omega) rfl
  have t0:wr.cell? ⟨Bk 4,1,none⟩=some (.int .i64 1):=hM.cell 4 1 (by omega) rfl
  have n0:wr.cell? ⟨Bk 1,11,none⟩=some (.int .i64 (-1)):=hM.cell 1 11 (by omega) rfl
  have n1:wr.cell? ⟨Bk 1,12,none⟩=some (.int .i64 (-1)):=hM.cell 1 12 (by omega) rfl
  have h0:=hM.lt 0 (by omega)
  have h1:=hM.lt 1 (by omega)
  have h4:=hM.lt 4 (by omega)
  have h33:=hM.lt 3 (by omega)
  have hal:Below wr.heap.size wr (wr.alloc (.cells #[.int .i64 (-1),.int .i64 (-1)] 171)).drew:=Qab (YD.alloc YA _) 1
  have hL:Blk 171 (wr.alloc (.cells #[.int .i64 (-1),.int .i64 (-1)] 171)).drew wr.heap.size [.int .i64 (-1),.int .i64 (-1)]:=heap_alloc_new wr _
  have HM1:Hid (FM x w0 Bk (.slice (some ⟨b,off,none⟩) 1 q) (VS c sp A2 B2 C0 (-(c:Int)) (-(c:Int)) m0 m1) (wr.alloc (.cells #[.int .i64 (-1),.int .i64 (-1)] 171)).drew):=hM.go hxw hal
  have HL1:Hid (Blk 171 (wr.alloc (.cells #[.int .i64 (-1),.int .i64 (-1)] 171)).drew wr.heap.size [.int .i64 (-1),.int .i64 (-1)]):=hL
  have HT1:Hid (Tch (Bk 3) wr (wr.alloc (.cells #[.int .i64 (-1),.int .i64 (-1)] 171)).drew):=Tch.of_below hal
  clear hM hL hal
  go_wp2
  go_big_region_o
  obtain⟨w6,hw6⟩:∃ W,(wr.alloc (.cells #[.int .i64 (-1),.int .i64 (-1)] 171)).drew=W:=⟨_,rfl⟩
  rw [hw6] at HM1 HL1 HT1 ⊢
  obtain⟨lb,hlb⟩:∃ n,wr.heap.size=n:=⟨_,rfl⟩
  rw [hlb] at HL1 hxw h0 h1 h4 h33 ⊢
  clear hw6 hlb k2 k6 t0 n0 n1
  have k6:=HM1.out.cell 0 6 (by omega) rfl
  have k5:=HM1.out.cell 0 5 (by omega) rfl
  have t0:w6.cell? ⟨Bk 4,1,none⟩=some (.int .i64 1):=HM1.out.cell 4 1 (by omega) rfl
  have p0:=HM1.out.cell 3 1 (by omega) rfl
  have f0:=HM1.out.frozen 3 1 (by omega)
  have h3:=HP.out.lo 3 (by omega)
  have hrb:=Qpc x w0 Bk b off c q sp m0 m1 w6 HM1.out
  have HT2:Hid (Tch (Bk 3) wr (w6.setCell ⟨Bk 3,1,none⟩ (.int .i64 0))):=HT1.out.set 1 _
  have HM2:Hid (FM x w0 Bk (.slice (some ⟨b,off,none⟩) 1 q) (VS c sp A2 B2 C0 (-(c:Int)) (-(c:Int)) m0 0) (w6.setCell ⟨Bk 3,1,none⟩ (.int .i64 0))):=HM1.out.setM HP.out 1 _
  have hl0:=HL1.out.cell (j:=0) rfl
  have hl1:=HL1.out.cell (j:=1) rfl
  have hlb3:lb≠Bk 3:=by omega
  have hxw6:=FP.le x w0 Bk b off c HP.out HM1.out
  have hit:∀ W,Calls Tryz.prog 175 #[.agg #[.int .i64 (-1),.int .i64 (-1)]] W fun e w'=>e = .returned (.bool false)∧Grew W w':=fun W=>QaQ _ _ W
  clear HM1 HT1
  go_wp2_with fail
  refine hrb.mono ?_
  rintro e w7 ⟨rfl,rfl⟩
  go_wp2_with fail
  refine (hit _).mono ?_
  rintro e w8 ⟨rfl,hg8⟩
  have hM8:=HM2.out.go (by simp;omega) hg8.below
  have HM8:Hid (FM x w0 Bk (.slice (some ⟨b,off,none⟩) 1 q) (VS c sp A2 B2 C0 (-(c:Int)) (-(c:Int)) m0 0) w8):=hM8
  have HT8:Hid (Tch (Bk 3) wr w8):=HT2.out.trans (Tch.of_below hg8.below)
  clear hM8 hg8 HM2 HT2
  go_wp2
  exact bodyPost_ret (results_none rfl _ _ _) rfl ⟨rfl,HM8.out,HT8.out⟩
theorem flip0 (m0 m1:Int)(hP:FP x w0 Bk b off c)(w:World)(hM:FM x w0 Bk (.slice (some ⟨b,off,none⟩) 1 q) (VS c sp A2 B2 C0 (-(c:Int)) (-(c:Int)) m0 m1) w):Calls Tryz.prog 182 #[.pointer (some ⟨Bk 0,0,none⟩),.int .i64 0,.int .i64 1] w fun e w'=>e = .returned (.tuple #[])∧FM x w0 Bk (.slice (some ⟨b,off,none⟩) 1 q) (VS c sp A2 B2 C0 (-(c:Int)) (-(c:Int)) 1 m1) w'∧Tch (Bk 3) w w':=by
 have hmix:=mixed
 have HP:Hid (FP x w0 Bk b off c):=hP
 have HM:Hid (FM x w0 Bk (.slice (some ⟨b,off,none⟩) 1 q) (VS c sp A2 B2 C0 (-(c:Int)) (-(c:Int)) m0 m1) w):=hM
 clear hM hP
 go_enter Tryz.func182,Tryz.ntmps182
 go_wp2
 go_loopw [1,2] (fun i j wr=>i = .int .i64 0∧j = .int .i64 1∧FM x w0 Bk (.slice (some ⟨b,off,none⟩) 1 q) (VS c sp A2 B2 C0 (-(c:Int)) (-(c:Int)) m0 m1) wr∧wr=w) (fun _ _ _=>0)
 case atStart=>exact⟨rfl,rfl,HM.out,rfl⟩
 case round=>
  clear HM
  obtain⟨rfl,rfl,hM,rfl⟩:=hrel
  have hxw:=FP.le x w0 Bk b off c HP.out hM
  have k2:=hM.cell 0 2 (by omega) rfl
  have k6:=hM.cell 0 6 (by omega) rfl
  have t0:wr.cell? ⟨Bk 4,0,none⟩=some (.int .i64 0):=hM.cell 4 0 (by omega) rfl
  have n0:wr.cell? ⟨Bk 1,1,none⟩=some (.int .i64 (-1)):=hM.cell 1 1 (by omega) rfl
  have n1:wr.cell? ⟨Bk 1,2,none⟩=some (.int .i64 (-1)):=hM.cell 1 2 (by omega) rfl
  have h0:=hM.lt 0 (by omega)
  have h1:=hM.lt 1 (by omega)
  have h4:=hM.lt 4 (by omega)
  have h33:=hM.lt 3 (by omega)
  have hal:Below wr.heap.size wr (wr.alloc (.cells #[.int .i64 (-1),.int .i64 (-1)] 171)).drew:=Qab (YD.alloc YA _) 1
  have hL:Blk 171 (wr.alloc (.cells #[.int .i64 (-1),.int .i64 (-1)] 171)).drew wr.heap.size [.int .i64 (-1),.int .i64 (-1)]:=heap_alloc_new wr _
  have HM1:Hid (FM x w0 Bk (.slice (some ⟨b,off,none⟩) 1 q) (VS c sp A2 B2 C0 (-(c:Int)) (-(c:Int)) m0 m1) (wr.alloc (.cells #[.int .i64 (-1),.int .i64 (-1)] 171)).drew):=hM.go hxw hal
  have HL1:Hid (Blk 171 (wr.alloc (.cells #[.int .i64 (-1),.int .i64 (-1)] 171)).drew wr.heap.size [.int .i64 (-1),.int .i64 (-1)]):=hL
  have HT1:Hid (Tch (Bk 3) wr (wr.alloc (.cells #[.int .i64 (-1),.int .i64 (-1)] 171)).drew):=Tch.of_below hal
  clear hM hL hal
  go_wp2
  go_big_region_o
  obtain⟨w6,hw6⟩:∃ W,(wr.alloc (.cells #[.int .i64 (-1),.int .i64 (-1)] 171)).drew=W:=⟨_,rfl⟩
  rw [hw6] at HM1 HL1 HT1 ⊢
  obtain⟨lb,hlb⟩:∃ n,wr.heap.size=n:=⟨_,rfl⟩
  rw [hlb] at HL1 hxw h0 h1 h4 h33 ⊢
  clear hw6 hlb k2 k6 t0 n0 n1
  have k6:=HM1.out.cell 0 6 (by omega) rfl
  have k5:=HM1.out.cell 0 5 (by omega) rfl
  have t0:w6.cell? ⟨Bk 4,0,none⟩=some (.int .i64 0):=HM1.out.cell 4 0 (by omega) rfl
  have p0:=HM1.out.cell 3 0 (by omega) rfl
  have f0:=HM1.out.frozen 3 0 (by omega)
  have h3:=HP.out.lo 3 (by omega)
  have hrb:=Qpd x w0 Bk b off c q sp m0 m1 w6 HM1.out
  have HT2:Hid (Tch (Bk 3) wr (w6.setCell ⟨Bk 3,0,none⟩ (.int .i64 1))):=HT1.out.set 0 _
  have HM2:Hid (FM x w0 Bk (.slice (some ⟨b,off,none⟩) 1 q) (VS c sp A2 B2 C0 (-(c:Int)) (-(c:Int)) 1 m1) (w6.setCell ⟨Bk 3,0,none⟩ (.int .i64 1))):=HM1.out.setM HP.out 0 _
  have hl0:=HL1.out.cell (j:=0) rfl
  have hl1:=HL1.out.cell (j:=1) rfl
  have hlb3:lb≠Bk 3:=by omega
  have hxw6:=FP.le x w0 Bk b off c HP.out HM1.out
  have hit:∀ W,Calls Tryz.prog 175 #[.agg #[.int .i64 (-1),.int .i64 (-1)]] W fun e w'=>e = .returned (.bool false)∧Grew W w':=fun W=>QaQ _ _ W
  clear HM1 HT1
  go_wp2_with fail
  refine hrb.mono ?_
  rintro e w7 ⟨rfl,rfl⟩
  go_wp2_with fail
  refine (hit _).mono ?_
  rintro e w8 ⟨rfl,hg8⟩
  have hM8:=HM2.out.go (by simp;omega) hg8.below
  have HM8:Hid (FM x w0 Bk (.slice (some ⟨b,off,none⟩) 1 q) (VS c sp A2 B2 C0 (-(c:Int)) (-(c:Int)) 1 m1) w8):=hM8
  have HT8:Hid (Tch (Bk 3) wr w8):=HT2.out.trans (Tch.of_below hg8.below)
  clear hM8 hg8 HM2 HT2
  go_wp2
  exact bodyPost_ret (results_none rfl _ _ _) rfl ⟨rfl,HM8.out,HT8.out⟩
end
section
variable (x:Nat) (w0:World) (Bk:Nat→Nat) (b off c q:Nat) (sp:Value)
theorem QnR (hP:FP x w0 Bk b off c)(w:World)(hM:FM x w0 Bk (.slice (some ⟨b,off,none⟩) 1 q) (VS c sp A2 B2 C0 (-(c:Int)) (-(c:Int)) (-1) (-1)) w):Calls Tryz.prog 167 #[.pointer (some ⟨Bk 0,0,none⟩),.int .i64 0] w fun e w'=>e = .returned (.bool true)∧FM x w0 Bk (.slice (some ⟨b,off,none⟩) 1 q) (VS c sp A2 B2 C0 (-(c:Int)) (-(c:Int)) 1 0) w':=by
 have hmix:=mixed
 have HP:Hid (FP x w0 Bk b off c):=hP
 have hxw:=FP.le x w0 Bk b off c hP hM
 have h33:=hM.lt 3 (by omega)
 have k2:=hM.cell 0 2 (by omega) rfl
 have n3:w.cell? ⟨Bk 1,3,none⟩=some (.int .i64 1):=hM.cell 1 3 (by omega) rfl
 have n4:w.cell? ⟨Bk 1,4,none⟩=some (.int .i64 0):=hM.cell 1 4 (by omega) rfl
 have hal:Below w.heap.size w (w.alloc (.cells #[.int .i64 1,.int .i64 0] 171)):=YD.alloc YA _
 have HL:Hid (Blk 171 (w.alloc (.cells #[.int .i64 1,.int .i64 0] 171)) w.heap.size [.int .i64 1,.int .i64 0]):=heap_alloc_new w _
 have HM:Hid (FM x w0 Bk (.slice (some ⟨b,off,none⟩) 1 q) (VS c sp A2 B2 C0 (-(c:Int)) (-(c:Int)) (-1) (-1)) (w.alloc (.cells #[.int .i64 1,.int .i64 0] 171))):=hM.go hxw hal
 clear hM hP hal
 go_enter Tryz.func167,Tryz.ntmps167
 go_wp2
 obtain⟨w1,hw1⟩:∃ W,w.alloc (.cells #[.int .i64 1,.int .i64 0] 171)=W:=⟨_,rfl⟩
 rw [hw1] at HL HM ⊢
 obtain⟨lb,hlb⟩:∃ n,w.heap.size=n:=⟨_,rfl⟩
 rw [hlb] at HL hxw h33 ⊢
 clear hw1 hlb k2 n3 n4
 have k6:=HM.out.cell 0 6 (by omega) rfl
 have t1:w1.cell? ⟨Bk 4,1,none⟩=some (.int .i64 1):=HM.out.cell 4 1 (by omega) rfl
 have l0:=HL.out.cell (j:=0) rfl
 have l1:=HL.out.cell (j:=1) rfl
 have hlt:=HL.out.lt
 have hco:∀ W,Below w1.heap.size w1 W→Calls Tryz.prog 180 #[.pointer (some ⟨Bk 0,0,none⟩),.int .i64 1,.int .i64 0] W fun e w'=>e = .returned (.int .i64 (-1))∧Below W.heap.size W w':=fun W hW=>QkB x w0 Bk b off c q sp HP.out W (HM.out.go (by omega) hW)
 refine wp_region_held_drew (S:=(fun w':World=>w'.cell? ⟨Bk 0,6,none⟩=some (.slice (some ⟨Bk 4,0,none⟩) 2 2)∧w'.cell? ⟨Bk 4,1,none⟩=some (.int .i64 1)∧w'.cell? ⟨lb,0,none⟩=some (.int .i64 1))) (by kernel_rfl) ⟨k6,t1,l0⟩ (fun hHeld=>?_)
 refine tH 0 ?_
 try simp only [z4]
 refine tH 1 ?_
 refine tH 2 ?_
 refine tH 3 ?_
 refine tH 4 ?_
 refine tH 5 ?_
 refine tH 6 ?_
 simp only [z1,z2,z3,z4,z5,z6]
 refine tH 7 ?_
 refine tH 8 ?_
 refine tH 9 ?_
 simp only [z1,z2,z3,z4,z5,z6]
 refine wpAnyH_ready (rs:=[10]) (by kernel_rfl) (by simp) ?_
 refine AllReadyH.cons rfl (fun K hK=>?_) AllReadyH.nil
 go_simp
 refine (hco w1.drew (Qab YD 1)).mono ?_
 rintro e w2 ⟨rfl,hb2⟩
 have hM2:=HM.out.drew.go (by show x≤w1.heap.size;omega) hb2
 have hL2:Blk 171 w2 lb [.int .i64 1,.int .i64 0]:=Blk.go (t:=171) (vs:=[.int .i64 1,.int .i64 0]) (show Blk _ w1.drew lb _ from HL.out) hb2
 refine hK.out _ _ ⟨hM2.cell 0 6 (by omega) rfl,hM2.cell 4 1 (by omega) rfl,hL2.cell (j:=0) rfl⟩ (fun hHeld2=>?_)
 have hs2:=hb2.size
 have HM2:Hid (FM x w0 Bk (.slice (some ⟨b,off,none⟩) 1 q) (VS c sp A2 B2 C0 (-(c:Int)) (-(c:Int)) (-1) (-1)) w2):=hM2
 have HL2:Hid (Blk 171 w2 lb [.int .i64 1,.int .i64 0]):=hL2
 clear hK K hHeld hb2 hM2 hL2 hco k6 t1 l0 l1 HM HL
 try simp only [Act.put,z4,z5,z6]
 refine tH 11 ?_
 refine wpAnyH_done (by kernel_rfl) ?_ _
 have l0:=HL2.out.cell (j:=0) rfl
 have l1:=HL2.out.cell (j:=1) rfl
 have hlt2:=HL2.out.lt
 have h3:=HM2.out.lt 3 (by omega)
 have hf1:=flip1 x w0 Bk b off c q sp (-1) (-1) HP.out w2 HM2.out
 clear hHeld2
 go_wp2_with fail
 refine hf1.mono ?_
 rintro e w3 ⟨rfl,hM3,hT3⟩
 have HM3:Hid (FM x w0 Bk (.slice (some ⟨b,off,none⟩) 1 q) (VS c sp A2 B2 C0 (-(c:Int)) (-(c:Int)) (-1) 0) w3):=hM3
 have l0:=hT3.cell l0 (by omega)
 have l1:=hT3.cell l1 (by omega)
 have hf0:=flip0 x w0 Bk b off c q sp (-1) 0 HP.out w3 hM3
 clear hf1 hM3 hT3
 go_wp2_with fail
 refine hf0.mono ?_
 rintro e w4 ⟨rfl,hM4,-⟩
 have HM4:Hid (FM x w0 Bk (.slice (some ⟨b,off,none⟩) 1 q) (VS c sp A2 B2 C0 (-(c:Int)) (-(c:Int)) 1 0) w4):=hM4
 clear hf0 hM4
 go_wp2
 go_ret
 exact⟨rfl,HM4.out⟩
theorem QjS (hP:FP x w0 Bk b off c)(w:World)(hM:FM x w0 Bk (.slice (some ⟨b,off,none⟩) 1 q) (VS c sp A2 B2 C0 (-(c:Int)) (-(c:Int)) (-1) (-1)) w):Calls Tryz.prog 145 #[.pointer (some ⟨Bk 0,0,none⟩),.int .i64 0] w fun e w'=>e = .returned (.bool true)∧FM x w0 Bk (.slice (some ⟨b,off,none⟩) 1 q) (VS c sp A2 B2 C0 (-(c:Int)) (-(c:Int)) 1 0) w':=by
 have k2:=hM.cell 0 2 (by omega) rfl
 have n0:w.cell? ⟨Bk 1,0,none⟩=some (.int .i64 1):=hM.cell 1 0 (by omega) rfl
 have hme:=QnR x w0 Bk b off c q sp hP w hM
 clear hM hP
 go_enter Tryz.func145,Tryz.ntmps145
 go_wp2_with fail
 refine hme.mono ?_
 rintro e w4 ⟨rfl,hM4⟩
 have HM4:Hid (FM x w0 Bk (.slice (some ⟨b,off,none⟩) 1 q) (VS c sp A2 B2 C0 (-(c:Int)) (-(c:Int)) 1 0) w4):=hM4
 clear hme hM4
 go_wp2
 go_ret
 exact⟨rfl,HM4.out⟩
theorem Qix (hP:FP x w0 Bk b off c)(w:World)(hM:FM x w0 Bk (.slice (some ⟨b,off,none⟩) 1 q) (V4 c sp) w):Calls Tryz.prog 113 #[.pointer (some ⟨Bk 0,0,none⟩)] w fun e w'=>e = .returned (.bool true)∧FM x w0 Bk (.slice (some ⟨b,off,none⟩) 1 q) (VS c sp A2 B2 C0 (-(c:Int)) (-(c:Int)) 1 0) w':=by
 have hpl:=Qls x w0 Bk b off c q sp hP w hM
 have HP:Hid (FP x w0 Bk b off c):=hP
 clear hM hP
 go_enter Tryz.func113,Tryz.ntmps113
 go_wp2_with fail
 refine hpl.mono ?_
 rintro e w2 ⟨rfl,hM2⟩
 have HM2:Hid (FM x w0 Bk (.slice (some ⟨b,off,none⟩) 1 q) (VS c sp A2 B2 C0 (-(c:Int)) (-(c:Int)) (-1) (-1)) w2):=hM2
 clear hpl hM2
 go_wp2
 go_loopw [] (fun wr=>FM x w0 Bk (.slice (some ⟨b,off,none⟩) 1 q) (VS c sp A2 B2 C0 (-(c:Int)) (-(c:Int)) (-1) (-1)) wr) (fun _=>0)
 case atStart=>exact HM2.out
 case round=>
  have hne:=QlR x w0 Bk b off c q sp HP.out wr hrel
  clear hrel HM2
  go_wp2_with fail
  refine hne.mono ?_
  rintro e w3 ⟨rfl,hM3⟩
  have hmv:=QlW x w0 Bk b off c q sp HP.out w3 hM3
  clear hne hM3
  go_wp2_with fail
  refine hmv.mono ?_
  rintro e w4 ⟨rfl,hM4⟩
  have hre:=QjS x w0 Bk b off c q sp HP.out w4 hM4
  clear hmv hM4
  go_wp2_with fail
  refine hre.mono ?_
  rintro e w5 ⟨rfl,hM5⟩
  have HM5:Hid (FM x w0 Bk (.slice (some ⟨b,off,none⟩) 1 q) (VS c sp A2 B2 C0 (-(c:Int)) (-(c:Int)) 1 0) w5):=hM5
  clear hre hM5
  go_wp2
  go_ret
  exact⟨rfl,HM5.out⟩
end
end Go.Proofs.YtalflecmadacaaaGreat
