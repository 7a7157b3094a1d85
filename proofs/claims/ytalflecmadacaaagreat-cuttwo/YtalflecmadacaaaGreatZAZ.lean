import Derived.Deep.LoopGhost
import Derived.Test.YtalflecmadacaaaGreatZAY
import Derived.Test.YtalflecmadacaaaGreatZAQ
import Derived.Deep.OwnRows
import Derived.Deep.DeepCutAuto
import Derived.Deep.CutBlock
import Derived.Test.YtalflecmadacaaaGreatZAW
import Derived.Test.YtalflecmadacaaaGreatZAA
set_option maxRecDepth 100000
set_option maxHeartbeats 8000000
namespace Go.Proofs.YtalflecmadacaaaGreat
open Go Go.Proofs Go.RowKit
theorem QpI:(Tryz.prog.info? 4).map (fun i=>(i.zero,i.size,i.bytes))=some (some (.bool false),1,1):=by kernel_rfl
section
variable (x:Nat) (w0:World) (Bk:Nat→Nat) (b off c q:Nat) (sp:Value)
theorem QpO (w:World)(hM:FM x w0 Bk (.slice (some ⟨b,off,none⟩) 1 q) (VS c sp A2 B2 C0 (-(c:Int)) (-(c:Int)) (-1) (-1)) w):Calls Tryz.prog 196 #[.pointer (some ⟨Bk 0,0,none⟩),.int .i64 0] w fun e w'=>e = .returned (.int .i64 (-1))∧Below w.heap.size w w':=by
 have k2:=hM.cell 0 2 (by omega) rfl
 have n0:w.cell? ⟨Bk 1,1,none⟩=some (.int .i64 (-1)):=hM.cell 1 1 (by omega) rfl
 have n1:w.cell? ⟨Bk 1,2,none⟩=some (.int .i64 (-1)):=hM.cell 1 2 (by omega) rfl
 have hal:Below w.heap.size w (w.alloc (.cells #[.int .i64 (-1),.int .i64 (-1)] 171)):=YD.alloc YA _
 have hit:∀ W,Calls Tryz.prog 175 #[.agg #[.int .i64 (-1),.int .i64 (-1)]] W fun e w'=>e = .returned (.bool false)∧Grew W w':=fun W=>QaS _ _ W
 have HAL:Hid _:=hal
 clear hM hal
 go_enter Tryz.func196,Tryz.ntmps196
 go_wp2_with fail
 refine (hit _).mono ?_
 rintro e w3 ⟨rfl,hg3⟩
 go_wp2
 go_ret
 exact⟨rfl,HAL.out.trans (hg3.below.mono HAL.out.size)⟩
theorem QpN (w:World)(hM:FM x w0 Bk (.slice (some ⟨b,off,none⟩) 1 q) (VS c sp A2 B2 C0 (-(c:Int)) (-(c:Int)) (-1) (-1)) w):Calls Tryz.prog 196 #[.pointer (some ⟨Bk 0,0,none⟩),.int .i64 1] w fun e w'=>e = .returned (.int .i64 (-1))∧Below w.heap.size w w':=by
 have k2:=hM.cell 0 2 (by omega) rfl
 have n0:w.cell? ⟨Bk 1,11,none⟩=some (.int .i64 (-1)):=hM.cell 1 11 (by omega) rfl
 have n1:w.cell? ⟨Bk 1,12,none⟩=some (.int .i64 (-1)):=hM.cell 1 12 (by omega) rfl
 have hal:Below w.heap.size w (w.alloc (.cells #[.int .i64 (-1),.int .i64 (-1)] 171)):=YD.alloc YA _
 have hit:∀ W,Calls Tryz.prog 175 #[.agg #[.int .i64 (-1),.int .i64 (-1)]] W fun e w'=>e = .returned (.bool false)∧Grew W w':=fun W=>QaS _ _ W
 have HAL:Hid _:=hal
 clear hM hal
 go_enter Tryz.func196,Tryz.ntmps196
 go_wp2_with fail
 refine (hit _).mono ?_
 rintro e w3 ⟨rfl,hg3⟩
 go_wp2
 go_ret
 exact⟨rfl,HAL.out.trans (hg3.below.mono HAL.out.size)⟩
theorem Qj3 (hP:FP x w0 Bk b off c)(w:World)(hM:FM x w0 Bk (.slice (some ⟨b,off,none⟩) 1 q) (VS c sp A2 B2 C0 (-(c:Int)) (-(c:Int)) (-1) (-1)) w):Calls Tryz.prog 180 #[.pointer (some ⟨Bk 0,0,none⟩),.int .i64 1,.int .i64 0] w fun e w'=>e = .returned (.int .i64 (-1))∧Below w.heap.size w w':=by
 obtain⟨i0,hi,hz0,hz1,hz2⟩:=info_parts QpI
 have hxw:=FP.le x w0 Bk b off c hP hM
 have k2:=hM.cell 0 2 (by omega) rfl
 have HM:Hid (∀ w',Below w.heap.size w w'→FM x w0 Bk (.slice (some ⟨b,off,none⟩) 1 q) (VS c sp A2 B2 C0 (-(c:Int)) (-(c:Int)) (-1) (-1)) w'):=fun w' h=>hM.go hxw h
 clear hM hP
 go_enter Tryz.func180,Tryz.ntmps180
 go_wp2_with (at_make;refine wpList_make_full _ rfl _ _ 25 rfl w.heap.size 4 i0 (.bool false) 1 Tryz.underlying25 hi hz0 hz1 .i64 .i64 _ _ 3 rfl rfl rfl rfl (by rw [hz2];omega) (by unfold maxLen;omega) YA ?_;intro w3 hown hgrow)
 have hb3:Below w.heap.size w w3:=YD.grown hgrow YA (fun k e=>by cases e)
 have hrow:=Blk.made hown
 have emd:(madeCells (Value.bool false).cells (3*1)).toList=[.bool false,.bool false,.bool false]:=by kernel_rfl
 rw [emd] at hrow
 clear emd
 have HRow:Hid (Blk 4 w3 w.heap.size [.bool false,.bool false,.bool false]):=hrow
 have HB3:Hid (Below w.heap.size w w3):=hb3
 clear hown hgrow hrow hb3 k2 hi hz0 hz1 hz2
 obtain⟨g,hg⟩:∃ g,w.heap.size=g:=⟨_,rfl⟩
 rw [hg] at HM HRow HB3 ⊢
 go_loopw [1] (fun i wr=>((i = .int .i64 1∧Blk 4 wr g [.bool false,.bool false,.bool false])∨(i = .int .i64 (-1)∧Blk 4 wr g [.bool false,.bool true,.bool false]))∧Below g w wr) (fun i _=>(intOf i+1).toNat)
 case atStart=>exact⟨.inl ⟨rfl,HRow.out⟩,HB3.out⟩
 case round=>
  obtain⟨hor,hb⟩:=hrel
  rcases hor with ⟨rfl,hB⟩ | ⟨rfl,hB⟩
  ·have t0:=hB.cell (j:=1) rfl
   have f0:=hB.frozen 1
   have hgl:=hB.lt
   have HB4:Hid (Below g w (wr.setCell ⟨g,1,none⟩ (.bool true))):=hb.setCell (p:=⟨g,1,none⟩) YA _
   have HR4:Hid (Blk 4 (wr.setCell ⟨g,1,none⟩ (.bool true)) g [.bool false,.bool true,.bool false]):=hB.set 1 _
   have hab:=QpN x w0 Bk b off c q sp _ (HM.out _ HB4.out)
   have hs4:(wr.setCell ⟨g,1,none⟩ (.bool true)).heap.size=wr.heap.size:=by simp
   have HS4:Hid _:=hs4
   clear hB hb hs4
   go_wp2_with fail
   refine hab.mono ?_
   rintro e w5 ⟨rfl,hb5⟩
   have HB5:Hid (Below g w w5):=HB4.out.trans (hb5.mono (by rw [HS4.out];omega))
   have HR5:Hid (Blk 4 w5 g [.bool false,.bool true,.bool false]):=HR4.out.go hb5
   clear hab hb5 t0 f0
   go_wp2
   exact⟨⟨.inr ⟨rfl,HR5.out⟩,HB5.out⟩,by simp [intOf]⟩
  ·have HB4:Hid (Below g w wr):=hb
   have HR4:Hid (Blk 4 wr g [.bool false,.bool true,.bool false]):=hB
   clear hB hb
   go_wp2
   go_loopw [2] (fun i wq=>((i = .int .i64 0∧Blk 4 wq g [.bool false,.bool true,.bool false])∨i = .int .i64 (-1))∧Below g w wq) (fun i _=>(intOf i+1).toNat)
   case atStart=>exact⟨.inl ⟨rfl,HR4.out⟩,HB4.out⟩
   case round=>
    obtain⟨hor,hb⟩:=hrel
    rcases hor with ⟨rfl,hB⟩ | rfl
    ·have t0:=hB.cell (j:=0) rfl
     have hgl:=hB.lt
     have hab:=QpO x w0 Bk b off c q sp _ (HM.out _ hb)
     have HB5:Hid (Below g w wr):=hb
     clear hB hb
     go_wp2_with fail
     refine hab.mono ?_
     rintro e w5 ⟨rfl,hb5⟩
     have HB6:Hid (Below g w w5):=HB5.out.trans (hb5.mono (by omega))
     clear hab hb5 t0
     go_wp2
     exact⟨⟨.inr rfl,HB6.out⟩,by simp [intOf]⟩
    ·have HB5:Hid (Below g w wr):=hb
     clear hb
     go_wp2
     go_ret
     exact⟨rfl,by rw [hg];exact HB5.out⟩
theorem QoH (m0 m1:Int)(w:World)(hM:FM x w0 Bk (.slice (some ⟨b,off,none⟩) 1 q) (VS c sp A2 B2 C0 (-(c:Int)) (-(c:Int)) m0 m1) w):Calls Tryz.prog 200 #[.pointer (some ⟨Bk 0,0,none⟩),.int .i64 0,.int .i64 0] w fun e w'=>e = .returned (.tuple #[])∧w'=w:=by
 have k2:=hM.cell 0 2 (by omega) rfl
 have n6:w.cell? ⟨Bk 1,6,none⟩=some (.int .i64 0):=hM.cell 1 6 (by omega) rfl
 clear hM
 go_enter Tryz.func200,Tryz.ntmps200
 go_wp2
 exact bodyPost_ret (results_none rfl _ _ _) rfl ⟨rfl,rfl⟩
theorem QoG (m0 m1:Int)(w:World)(hM:FM x w0 Bk (.slice (some ⟨b,off,none⟩) 1 q) (VS c sp A2 B2 C0 (-(c:Int)) (-(c:Int)) m0 m1) w):Calls Tryz.prog 200 #[.pointer (some ⟨Bk 0,0,none⟩),.int .i64 1,.int .i64 1] w fun e w'=>e = .returned (.tuple #[])∧w'=w:=by
 have k2:=hM.cell 0 2 (by omega) rfl
 have n6:w.cell? ⟨Bk 1,16,none⟩=some (.int .i64 1):=hM.cell 1 16 (by omega) rfl
 clear hM
 go_enter Tryz.func200,Tryz.ntmps200
 go_wp2
 exact bodyPost_ret (results_none rfl _ _ _) rfl ⟨rfl,rfl⟩
theorem flip1 (m0 m1:Int)(hP:FP x w0 Bk b off c)(w:World)(hM:FM x w0 Bk (.slice (some ⟨b,off,none⟩) 1 q) (VS c sp A2 B2 C0 (-(c:Int)) (-(c:Int)) m0 m1) w):Calls Tryz.prog 182 #[.pointer (some ⟨Bk 0,0,none⟩),.int .i64 1,.int .i64 0] w fun e w'=>e = .returned (.tuple #[])∧FM x w0 Bk (.slice (some ⟨b,off,none⟩) 1 q) (VS c sp A2 B2 C0 (-(c:Int)) (-(c:Int)) m0 0) w'∧Tch (Bk 3) w w':=by
 have hmix:=mixed
 have HP:Hid (FP x w0 Bk b off c):=hP
 have HM:Hid (FM x w0 Bk (.slice (some ⟨b,off,none⟩) 1 q) (VS c sp A2 B2 C0 (-(c:Int)) (-(c:Int)) m0 m1) w):=hM
 clear hM hP
 go_enter Tryz.func182,Tryz.ntmps182
 go_wp2
 go_loopw [1,2] (fun i j wr=>i = .int .i64 1∧j = .int .i64 0∧FM x w0 Bk (.slice (some ⟨b,off,none⟩) 1 q) (VS c sp A2 B2 C0 (-(c:Int)) (-(c:Int)) m0 m1) wr∧wr=w) (fun _ _ _=>0)
 case atStart=>exact⟨rfl,rfl,HM.out,rfl⟩
 case round=>
  clear HM
  obtain⟨rfl,rfl,hM,rfl⟩:=hrel
  have hxw:=FP.le x w0 Bk b off c HP.out hM
  have k2:=hM.cell 0 2 (by omega) rfl
  have k6:=hM.cell 0 6 (by omega) rfl
  have t0:wr.cell? ⟨Bk 4,1,none⟩=some (.int .i64 1):=hM.cell 4 1 (by omega) rfl
  have n0:wr.cell? ⟨Bk 1,11,none⟩=some (.int .i64 (-1)):=hM.cell 1 11 (by omega) rfl
  have n1:wr.cell? ⟨Bk 1,12,none⟩=some (.int .i64 (-1)):=hM.cell 1 12 (by omega) rfl
  have h0:=hM.lt 0 (by omega)
  have h1:=hM.lt 1 (by omega)
  have h4:=hM.lt 4 (by omega)
  have h33:=hM.lt 3 (by omega)
  have hal:Below wr.heap.size wr (wr.alloc (.cells #[.int .i64 (-1),.int .i64 (-1)] 171)).drew:=Qaa (YD.alloc YA _) 1
  have hL:Blk 171 (wr.alloc (.cells #[.int .i64 (-1),.int .i64 (-1)] 171)).drew wr.heap.size [.int .i64 (-1),.int .i64 (-1)]:=heap_alloc_new wr _
  have HM1:Hid (FM x w0 Bk (.slice (some ⟨b,off,none⟩) 1 q) (VS c sp A2 B2 C0 (-(c:Int)) (-(c:Int)) m0 m1) (wr.alloc (.cells #[.int .i64 (-1),.int .i64 (-1)] 171)).drew):=hM.go hxw hal
  have HL1:Hid (Blk 171 (wr.alloc (.cells #[.int .i64 (-1),.int .i64 (-1)] 171)).drew wr.heap.size [.int .i64 (-1),.int .i64 (-1)]):=hL
  have HT1:Hid (Tch (Bk 3) wr (wr.alloc (.cells #[.int .i64 (-1),.int .i64 (-1)] 171)).drew):=Tch.of_below hal
  clear hM hL hal
  go_wp2
  go_big_region_o
  obtain⟨w6,hw6⟩:∃ W,(wr.alloc (.cells #[.int .i64 (-1),.int .i64 (-1)] 171)).drew=W:=⟨_,rfl⟩
  rw [hw6] at HM1 HL1 HT1 ⊢
  obtain⟨lb,hlb⟩:∃ n,wr.heap.size=n:=⟨_,rfl⟩
  rw [hlb] at HL1 hxw h0 h1 h4 h33 ⊢
  clear hw6 hlb k2 k6 t0 n0 n1
  have k6:=HM1.out.cell 0 6 (by omega) rfl
  have k5:=HM1.out.cell 0 5 (by omega) rfl
  have t0:w6.cell? ⟨Bk 4,1,none⟩=some (.int .i64 1):=HM1.out.cell 4 1 (by omega) rfl
  have p0:=HM1.out.cell 3 1 (by omega) rfl
  have f0:=HM1.out.frozen 3 1 (by omega)
  have h3:=HP.out.lo 3 (by omega)
  have hrb:=QoG x w0 Bk b off c q sp m0 m1 w6 HM1.out
  have HT2:Hid (Tch (Bk 3) wr (w6.setCell ⟨Bk 3,1,none⟩ (.int .i64 0))):=HT1.out.set 1 _
  have HM2:Hid (FM x w0 Bk (.slice (some ⟨b,off,none⟩) 1 q) (VS c sp A2 B2 C0 (-(c:Int)) (-(c:Int)) m0 0) (w6.setCell ⟨Bk 3,1,none⟩ (.int .i64 0))):=HM1.out.setM HP.out 1 _
  have hl0:=HL1.out.cell (j:=0) rfl
  have hl1:=HL1.out.cell (j:=1) rfl
  have hlb3:lb≠Bk 3:=by omega
  have hxw6:=FP.le x w0 Bk b off c HP.out HM1.out
  have hit:∀ W,Calls Tryz.prog 175 #[.agg #[.int .i64 (-1),.int .i64 (-1)]] W fun e w'=>e = .returned (.bool false)∧Grew W w':=fun W=>QaS _ _ W
  clear HM1 HT1
  go_wp2_with fail
  refine hrb.mono ?_
  rintro e w7 ⟨rfl,rfl⟩
  go_wp2_with fail
  refine (hit _).mono ?_
  rintro e w8 ⟨rfl,hg8⟩
  have hM8:=HM2.out.go (by simp;omega) hg8.below
  have HM8:Hid (FM x w0 Bk (.slice (some ⟨b,off,none⟩) 1 q) (VS c sp A2 B2 C0 (-(c:Int)) (-(c:Int)) m0 0) w8):=hM8
  have HT8:Hid (Tch (Bk 3) wr w8):=HT2.out.trans (Tch.of_below hg8.below)
  clear hM8 hg8 HM2 HT2
  go_wp2
  exact bodyPost_ret (results_none rfl _ _ _) rfl ⟨rfl,HM8.out,HT8.out⟩
theorem flip0 (m0 m1:Int)(hP:FP x w0 Bk b off c)(w:World)(hM:FM x w0 Bk (.slice (some ⟨b,off,none⟩) 1 q) (VS c sp A2 B2 C0 (-(c:Int)) (-(c:Int)) m0 m1) w):Calls Tryz.prog 182 #[.pointer (some ⟨Bk 0,0,none⟩),.int .i64 0,.int .i64 1] w fun e w'=>e = .returned (.tuple #[])∧FM x w0 Bk (.slice (some ⟨b,off,none⟩) 1 q) (VS c sp A2 B2 C0 (-(c:Int)) (-(c:Int)) 1 m1) w'∧Tch (Bk 3) w w':=by
 have hmix:=mixed
 have HP:Hid (FP x w0 Bk b off c):=hP
 have HM:Hid (FM x w0 Bk (.slice (some ⟨b,off,none⟩) 1 q) (VS c sp A2 B2 C0 (-(c:Int)) (-(c:Int)) m0 m1) w):=hM
 clear hM hP
 go_enter Tryz.func182,Tryz.ntmps182
 go_wp2
 go_loopw [1,2] (fun i j wr=>i = .int .i64 0∧j = .int .i64 1∧FM x w0 Bk (.slice (some ⟨b,off,none⟩) 1 q) (VS c sp A2 B2 C0 (-(c:Int)) (-(c:Int)) m0 m1) wr∧wr=w) (fun _ _ _=>0)
 case atStart=>exact⟨rfl,rfl,HM.out,rfl⟩
 case round=>
  clear HM
  obtain⟨rfl,rfl,hM,rfl⟩:=hrel
  have hxw:=FP.le x w0 Bk b off c HP.out hM
  have k2:=hM.cell 0 2 (by omega) rfl
  have k6:=hM.cell 0 6 (by omega) rfl
  have t0:wr.cell? ⟨Bk 4,0,none⟩=some (.int .i64 0):=hM.cell 4 0 (by omega) rfl
  have n0:wr.cell? ⟨Bk 1,1,none⟩=some (.int .i64 (-1)):=hM.cell 1 1 (by omega) rfl
  have n1:wr.cell? ⟨Bk 1,2,none⟩=some (.int .i64 (-1)):=hM.cell 1 2 (by omega) rfl
  have h0:=hM.lt 0 (by omega)
  have h1:=hM.lt 1 (by omega)
  have h4:=hM.lt 4 (by omega)
  have h33:=hM.lt 3 (by omega)
  have hal:Below wr.heap.size wr (wr.alloc (.cells #[.int .i64 (-1),.int .i64 (-1)] 171)).drew:=Qaa (YD.alloc YA _) 1
  have hL:Blk 171 (wr.alloc (.cells #[.int .i64 (-1),.int .i64 (-1)] 171)).drew wr.heap.size [.int .i64 (-1),.int .i64 (-1)]:=heap_alloc_new wr _
  have HM1:Hid (FM x w0 Bk (.slice (some ⟨b,off,none⟩) 1 q) (VS c sp A2 B2 C0 (-(c:Int)) (-(c:Int)) m0 m1) (wr.alloc (.cells #[.int .i64 (-1),.int .i64 (-1)] 171)).drew):=hM.go hxw hal
  have HL1:Hid (Blk 171 (wr.alloc (.cells #[.int .i64 (-1),.int .i64 (-1)] 171)).drew wr.heap.size [.int .i64 (-1),.int .i64 (-1)]):=hL
  have HT1:Hid (Tch (Bk 3) wr (wr.alloc (.cells #[.int .i64 (-1),.int .i64 (-1)] 171)).drew):=Tch.of_below hal
  clear hM hL hal
  go_wp2
  go_big_region_o
  obtain⟨w6,hw6⟩:∃ W,(wr.alloc (.cells #[.int .i64 (-1),.int .i64 (-1)] 171)).drew=W:=⟨_,rfl⟩
  rw [hw6] at HM1 HL1 HT1 ⊢
  obtain⟨lb,hlb⟩:∃ n,wr.heap.size=n:=⟨_,rfl⟩
  rw [hlb] at HL1 hxw h0 h1 h4 h33 ⊢
  clear hw6 hlb k2 k6 t0 n0 n1
  have k6:=HM1.out.cell 0 6 (by omega) rfl
  have k5:=HM1.out.cell 0 5 (by omega) rfl
  have t0:w6.cell? ⟨Bk 4,0,none⟩=some (.int .i64 0):=HM1.out.cell 4 0 (by omega) rfl
  have p0:=HM1.out.cell 3 0 (by omega) rfl
  have f0:=HM1.out.frozen 3 0 (by omega)
  have h3:=HP.out.lo 3 (by omega)
  have hrb:=QoH x w0 Bk b off c q sp m0 m1 w6 HM1.out
  have HT2:Hid (Tch (Bk 3) wr (w6.setCell ⟨Bk 3,0,none⟩ (.int .i64 1))):=HT1.out.set 0 _
  have HM2:Hid (FM x w0 Bk (.slice (some ⟨b,off,none⟩) 1 q) (VS c sp A2 B2 C0 (-(c:Int)) (-(c:Int)) 1 m1) (w6.setCell ⟨Bk 3,0,none⟩ (.int .i64 1))):=HM1.out.setM HP.out 0 _
  have hl0:=HL1.out.cell (j:=0) rfl
  have hl1:=HL1.out.cell (j:=1) rfl
  have hlb3:lb≠Bk 3:=by omega
  have hxw6:=FP.le x w0 Bk b off c HP.out HM1.out
  have hit:∀ W,Calls Tryz.prog 175 #[.agg #[.int .i64 (-1),.int .i64 (-1)]] W fun e w'=>e = .returned (.bool false)∧Grew W w':=fun W=>QaS _ _ W
  clear HM1 HT1
  go_wp2_with fail
  refine hrb.mono ?_
  rintro e w7 ⟨rfl,rfl⟩
  go_wp2_with fail
  refine (hit _).mono ?_
  rintro e w8 ⟨rfl,hg8⟩
  have hM8:=HM2.out.go (by simp;omega) hg8.below
  have HM8:Hid (FM x w0 Bk (.slice (some ⟨b,off,none⟩) 1 q) (VS c sp A2 B2 C0 (-(c:Int)) (-(c:Int)) 1 m1) w8):=hM8
  have HT8:Hid (Tch (Bk 3) wr w8):=HT2.out.trans (Tch.of_below hg8.below)
  clear hM8 hg8 HM2 HT2
  go_wp2
  exact bodyPost_ret (results_none rfl _ _ _) rfl ⟨rfl,HM8.out,HT8.out⟩
end
section
variable (x:Nat) (w0:World) (Bk:Nat→Nat) (b off c q:Nat) (sp:Value)
theorem Qnb (hP:FP x w0 Bk b off c)(w:World)(hM:FM x w0 Bk (.slice (some ⟨b,off,none⟩) 1 q) (VS c sp A2 B2 C0 (-(c:Int)) (-(c:Int)) (-1) (-1)) w):Calls Tryz.prog 167 #[.pointer (some ⟨Bk 0,0,none⟩),.int .i64 0] w fun e w'=>e = .returned (.bool true)∧FM x w0 Bk (.slice (some ⟨b,off,none⟩) 1 q) (VS c sp A2 B2 C0 (-(c:Int)) (-(c:Int)) 1 0) w':=by
 have hmix:=mixed
 have HP:Hid (FP x w0 Bk b off c):=hP
 have hxw:=FP.le x w0 Bk b off c hP hM
 have h33:=hM.lt 3 (by omega)
 have k2:=hM.cell 0 2 (by omega) rfl
 have n3:w.cell? ⟨Bk 1,3,none⟩=some (.int .i64 1):=hM.cell 1 3 (by omega) rfl
 have n4:w.cell? ⟨Bk 1,4,none⟩=some (.int .i64 0):=hM.cell 1 4 (by omega) rfl
 have hal:Below w.heap.size w (w.alloc (.cells #[.int .i64 1,.int .i64 0] 171)):=YD.alloc YA _
 have HL:Hid (Blk 171 (w.alloc (.cells #[.int .i64 1,.int .i64 0] 171)) w.heap.size [.int .i64 1,.int .i64 0]):=heap_alloc_new w _
 have HM:Hid (FM x w0 Bk (.slice (some ⟨b,off,none⟩) 1 q) (VS c sp A2 B2 C0 (-(c:Int)) (-(c:Int)) (-1) (-1)) (w.alloc (.cells #[.int .i64 1,.int .i64 0] 171))):=hM.go hxw hal
 clear hM hP hal
 go_enter Tryz.func167,Tryz.ntmps167
 go_wp2
 obtain⟨w1,hw1⟩:∃ W,w.alloc (.cells #[.int .i64 1,.int .i64 0] 171)=W:=⟨_,rfl⟩
 rw [hw1] at HL HM ⊢
 obtain⟨lb,hlb⟩:∃ n,w.heap.size=n:=⟨_,rfl⟩
 rw [hlb] at HL hxw h33 ⊢
 clear hw1 hlb k2 n3 n4
 have k6:=HM.out.cell 0 6 (by omega) rfl
 have t1:w1.cell? ⟨Bk 4,1,none⟩=some (.int .i64 1):=HM.out.cell 4 1 (by omega) rfl
 have l0:=HL.out.cell (j:=0) rfl
 have l1:=HL.out.cell (j:=1) rfl
 have hlt:=HL.out.lt
 have hco:∀ W,Below w1.heap.size w1 W→Calls Tryz.prog 180 #[.pointer (some ⟨Bk 0,0,none⟩),.int .i64 1,.int .i64 0] W fun e w'=>e = .returned (.int .i64 (-1))∧Below W.heap.size W w':=fun W hW=>Qj3 x w0 Bk b off c q sp HP.out W (HM.out.go (by omega) hW)
 refine wp_region_held_drew (S:=(fun w':World=>w'.cell? ⟨Bk 0,6,none⟩=some (.slice (some ⟨Bk 4,0,none⟩) 2 2)∧w'.cell? ⟨Bk 4,1,none⟩=some (.int .i64 1)∧w'.cell? ⟨lb,0,none⟩=some (.int .i64 1))) (by kernel_rfl) ⟨k6,t1,l0⟩ (fun hHeld=>?_)
 refine tH 0 ?_
 try simp only [YS]
 refine tH 1 ?_
 refine tH 2 ?_
 refine tH 3 ?_
 refine tH 4 ?_
 refine tH 5 ?_
 refine tH 6 ?_
 simp only [YS,YT,YU]
 refine tH 7 ?_
 refine tH 8 ?_
 refine tH 9 ?_
 simp only [YS,YT,YU]
 refine wpAnyH_ready (rs:=[10]) (by kernel_rfl) (by simp) ?_
 refine AllReadyH.cons rfl (fun K hK=>?_) AllReadyH.nil
 go_simp
 refine (hco w1.drew (Qaa YD 1)).mono ?_
 rintro e w2 ⟨rfl,hb2⟩
 have hM2:=HM.out.drew.go (by show x≤w1.heap.size;omega) hb2
 have hL2:Blk 171 w2 lb [.int .i64 1,.int .i64 0]:=Blk.go (t:=171) (vs:=[.int .i64 1,.int .i64 0]) (show Blk _ w1.drew lb _ from HL.out) hb2
 refine hK.out _ _ ⟨hM2.cell 0 6 (by omega) rfl,hM2.cell 4 1 (by omega) rfl,hL2.cell (j:=0) rfl⟩ (fun hHeld2=>?_)
 have hs2:=hb2.size
 have HM2:Hid (FM x w0 Bk (.slice (some ⟨b,off,none⟩) 1 q) (VS c sp A2 B2 C0 (-(c:Int)) (-(c:Int)) (-1) (-1)) w2):=hM2
 have HL2:Hid (Blk 171 w2 lb [.int .i64 1,.int .i64 0]):=hL2
 clear hK K hHeld hb2 hM2 hL2 hco k6 t1 l0 l1 HM HL
 try simp only [Act.put,YS,YT,YU]
 refine tH 11 ?_
 refine wpAnyH_done (by kernel_rfl) ?_ _
 have l0:=HL2.out.cell (j:=0) rfl
 have l1:=HL2.out.cell (j:=1) rfl
 have hlt2:=HL2.out.lt
 have h3:=HM2.out.lt 3 (by omega)
 have hf1:=flip1 x w0 Bk b off c q sp (-1) (-1) HP.out w2 HM2.out
 clear hHeld2
 go_wp2_with fail
 refine hf1.mono ?_
 rintro e w3 ⟨rfl,hM3,hT3⟩
 have HM3:Hid (FM x w0 Bk (.slice (some ⟨b,off,none⟩) 1 q) (VS c sp A2 B2 C0 (-(c:Int)) (-(c:Int)) (-1) 0) w3):=hM3
 have l0:=hT3.cell l0 (by omega)
 have l1:=hT3.cell l1 (by omega)
 have hf0:=flip0 x w0 Bk b off c q sp (-1) 0 HP.out w3 hM3
 clear hf1 hM3 hT3
 go_wp2_with fail
 refine hf0.mono ?_
 rintro e w4 ⟨rfl,hM4,-⟩
 have HM4:Hid (FM x w0 Bk (.slice (some ⟨b,off,none⟩) 1 q) (VS c sp A2 B2 C0 (-(c:Int)) (-(c:Int)) 1 0) w4):=hM4
 clear hf0 hM4
 go_wp2
 go_ret
 exact⟨rfl,HM4.out⟩
theorem Qjn (hP:FP x w0 Bk b off c)(w:World)(hM:FM x w0 Bk (.slice (some ⟨b,off,none⟩) 1 q) (VS c sp A2 B2 C0 (-(c:Int)) (-(c:Int)) (-1) (-1)) w):Calls Tryz.prog 145 #[.pointer (some ⟨Bk 0,0,none⟩),.int .i64 0] w fun e w'=>e = .returned (.bool true)∧FM x w0 Bk (.slice (some ⟨b,off,none⟩) 1 q) (VS c sp A2 B2 C0 (-(c:Int)) (-(c:Int)) 1 0) w':=by
 have k2:=hM.cell 0 2 (by omega) rfl
 have n0:w.cell? ⟨Bk 1,0,none⟩=some (.int .i64 1):=hM.cell 1 0 (by omega) rfl
 have hme:=Qnb x w0 Bk b off c q sp hP w hM
 clear hM hP
 go_enter Tryz.func145,Tryz.ntmps145
 go_wp2_with fail
 refine hme.mono ?_
 rintro e w4 ⟨rfl,hM4⟩
 have HM4:Hid (FM x w0 Bk (.slice (some ⟨b,off,none⟩) 1 q) (VS c sp A2 B2 C0 (-(c:Int)) (-(c:Int)) 1 0) w4):=hM4
 clear hme hM4
 go_wp2
 go_ret
 exact⟨rfl,HM4.out⟩
theorem Qif (hP:FP x w0 Bk b off c)(w:World)(hM:FM x w0 Bk (.slice (some ⟨b,off,none⟩) 1 q) (V4 c sp) w):Calls Tryz.prog 113 #[.pointer (some ⟨Bk 0,0,none⟩)] w fun e w'=>e = .returned (.bool true)∧FM x w0 Bk (.slice (some ⟨b,off,none⟩) 1 q) (VS c sp A2 B2 C0 (-(c:Int)) (-(c:Int)) 1 0) w':=by
 have hpl:=QkW x w0 Bk b off c q sp hP w hM
 have HP:Hid (FP x w0 Bk b off c):=hP
 clear hM hP
 go_enter Tryz.func113,Tryz.ntmps113
 go_wp2_with fail
 refine hpl.mono ?_
 rintro e w2 ⟨rfl,hM2⟩
 have HM2:Hid (FM x w0 Bk (.slice (some ⟨b,off,none⟩) 1 q) (VS c sp A2 B2 C0 (-(c:Int)) (-(c:Int)) (-1) (-1)) w2):=hM2
 clear hpl hM2
 go_wp2
 go_loopw [] (fun wr=>FM x w0 Bk (.slice (some ⟨b,off,none⟩) 1 q) (VS c sp A2 B2 C0 (-(c:Int)) (-(c:Int)) (-1) (-1)) wr) (fun _=>0)
 case atStart=>exact HM2.out
 case round=>
  have hne:=Qlj x w0 Bk b off c q sp HP.out wr hrel
  clear hrel HM2
  go_wp2_with fail
  refine hne.mono ?_
  rintro e w3 ⟨rfl,hM3⟩
  have hmv:=Qln x w0 Bk b off c q sp HP.out w3 hM3
  clear hne hM3
  go_wp2_with fail
  refine hmv.mono ?_
  rintro e w4 ⟨rfl,hM4⟩
  have hre:=Qjn x w0 Bk b off c q sp HP.out w4 hM4
  clear hmv hM4
  go_wp2_with fail
  refine hre.mono ?_
  rintro e w5 ⟨rfl,hM5⟩
  have HM5:Hid (FM x w0 Bk (.slice (some ⟨b,off,none⟩) 1 q) (VS c sp A2 B2 C0 (-(c:Int)) (-(c:Int)) 1 0) w5):=hM5
  clear hre hM5
  go_wp2
  go_ret
  exact⟨rfl,HM5.out⟩
end
def depF (i:Nat):List Nat:=if i=5 then [4] else if i=8 then [5] else if i=12 then [8,9] else if i=17 then [12] else if i=20 then [17] else if i=22 then [20] else if i=23 then [22] else []
theorem QfI (c:Nat)(hc:c<1099511627776)(p:Option Addr)(q:Nat)(w:World)(hl:Edges w.heap.size w (.slice p 1 q) ((L2 c).map edE)):Calls Tryz.prog 112 #[.agg #[.int .i64 2,.slice p 1 q]] w fun r w'=>∃ (b off x:Nat) (w1:World) (Bk:Nat→Nat) (sp:Value),p=some ⟨b,off,none⟩∧r = .returned (.pointer (some ⟨Bk 0,0,none⟩))∧Below w.heap.size w w1∧w.heap.size≤x∧FP x w1 Bk b off c∧FM x w1 Bk (.slice p 1 q) (V4 c sp) w':=by
 have hmix:=mixed
 obtain⟨b,off,rfl,hb,hq,hcl⟩:=QnR hl
 have hb1:Below w.heap.size w (w.alloc (.cells #[.int .i64 2,.slice (some ⟨b,off,none⟩) 1 q] 24)):=YD.alloc YA _
 have q0:(w.alloc (.cells #[.int .i64 2,.slice (some ⟨b,off,none⟩) 1 q] 24)).cell? ⟨w.heap.size,0,none⟩=some (.int .i64 2):=Qam rfl rfl
 have q1:(w.alloc (.cells #[.int .i64 2,.slice (some ⟨b,off,none⟩) 1 q] 24)).cell? ⟨w.heap.size,1,none⟩=some (.slice (some ⟨b,off,none⟩) 1 q):=Qam rfl rfl
 have hsz1:(w.alloc (.cells #[.int .i64 2,.slice (some ⟨b,off,none⟩) 1 q] 24)).heap.size=w.heap.size+1:=by simp
 have HL:Hid (Edges w.heap.size w (.slice (some ⟨b,off,none⟩) 1 q) ((L2 c).map edE)):=hl
 have HC:Hid _:=hcl
 clear hl hcl
 go_enter Tryz.func112,Tryz.ntmps112
 go_wp2
 generalize hw1:(w.alloc (.cells #[.int .i64 2,.slice (some ⟨b,off,none⟩) 1 q] 24))=w1 at *
 generalize hxb:w.heap.size=xb at *
 go_cut [4] (fun t wx=>∃ Bk,t = .pointer (some ⟨Bk 0,0,none⟩)∧FP (xb+1) w1 Bk b off c∧FM (xb+1) w1 Bk (.slice (some ⟨b,off,none⟩) 1 q) (V0 c) wx)
 case first=>
  refine wp_region_held_drew (S:=(fun w':World=>w'.cell? ⟨xb,0,none⟩=some (.int .i64 2)∧w'.cell? ⟨xb,1,none⟩=some (.slice (some ⟨b,off,none⟩) 1 q))) (by kernel_rfl) ⟨q0,q1⟩ (fun hHeld=>?_)
  refine tH 0 ?_
  try simp only [YS]
  refine tH 1 ?_
  refine tH 3 ?_
  refine tH 6 ?_
  refine tH 7 ?_
  simp only [YS,YT,YU]
  refine tH 10 ?_
  refine tH 11 ?_
  refine tH 13 ?_
  refine tH 14 ?_
  refine tH 16 ?_
  simp only [YS,YT,YU]
  refine tH 18 ?_
  refine tH 19 ?_
  refine tH 21 ?_
  simp only [YS,YT,YU]
  refine QdA depF [2,4,5,8,9,12,15,17,20,22,23] (by decide) _ (fun d a W=>∃ X tg,a={ tmps:=#[.agg #[.int .i64 2,.slice (some ⟨b,off,none⟩) 1 q],.pointer (some ⟨xb,0,none⟩),.pointer none,.int .i64 3,undef,undef,undef,.pointer (some ⟨xb,0,none⟩),.int .i64 2,.pointer (some ⟨xb,0,none⟩),.int .i64 2,.int .i64 1,.int .i64 3,.agg #[.int .i64 2,.slice (some ⟨b,off,none⟩) 1 q],.int .i64 3,X 2,.agg #[.int .i64 2,.slice (some ⟨b,off,none⟩) 1 q],X 4,X 5,.pointer (some ⟨xb,0,none⟩),.int .i64 2,X 8,X 9,.pointer (some ⟨xb,0,none⟩),.int .i64 2,X 12,.pointer (some ⟨xb,0,none⟩),.int .i64 2,X 15,.agg #[.int .i64 2,.slice (some ⟨b,off,none⟩) 1 q],X 17,.pointer (some ⟨xb,0,none⟩),.int .i64 2,X 20,.int .i64 3,X 22,X 23,undef,undef,undef,undef,undef,undef,undef,undef,undef,undef,undef,undef,undef,undef,undef,undef,undef,undef,undef,undef,undef,undef,undef,undef,undef,undef,undef,undef,undef,undef,undef,undef,undef,undef,undef,undef],defers:=[] }∧JF c (xb+1) d X tg W∧Below (xb+1) w1 W) 3 (by kernel_rfl) ?_ ?_ 11 [] _ _ rfl (fun i hi=>by simp at hi) (fun i hi=>by simp at hi) ?_
  ·intro i hi d a W hid hdep hJ
   obtain⟨X,tg,rfl,hJ,hb⟩:=hJ
   have hi':i=2∨i=4∨i=5∨i=8∨i=9∨i=12∨i=15∨i=17∨i=20∨i=22∨i=23:=by simpa using hi
   have hWs:xb+1≤W.heap.size:=by have:=hb.size;omega
   have hbw:Below xb w W:=hb1.trans (hb.mono (by omega))
   have hEW:Edges W.heap.size W (.slice (some ⟨b,off,none⟩) 1 q) ((L2 c).map edE):=(Edges.below HL.out hbw).mono (by omega)
   have keep:Hid (∀ W',Below W.heap.size W W'→W'.cell? ⟨xb,0,none⟩=some (.int .i64 2)∧W'.cell? ⟨xb,1,none⟩=some (.slice (some ⟨b,off,none⟩) 1 q)):=fun W' h=>by
    have h':=hb.trans (h.mono hWs)
    exact⟨(h'.cell (p:=⟨xb,0,none⟩) (by simp)).trans q0,(h'.cell (p:=⟨xb,1,none⟩) (by simp)).trans q1⟩
   have HJ:Hid (JF c (xb+1) d X tg W):=hJ
   have HD:Hid (∀ j∈depF i,j∈d):=hdep
   have HB:Hid (∀ W',Below W.heap.size W W'→Below (xb+1) w1 W'):=fun W' h=>hb.trans (h.mono hWs)
   have HI:Hid (i∉d):=hid
   have HE:Hid (Edges W.heap.size W (.slice (some ⟨b,off,none⟩) 1 q) ((L2 c).map edE)):=hEW
   clear hi hHeld hJ hdep hid hbw hb hEW
   rcases hi' with rfl | rfl | rfl | rfl | rfl | rfl | rfl | rfl | rfl | rfl | rfl
   ·refine Qas rfl (fun K hK=>?_)
    obtain⟨j0,hj,hy0,hy1,hy2⟩:=info_parts infoN
    obtain⟨W',h1,h2,h3⟩:=run_make_full (P:=Tryz.prog) W (xb+1) 163 178 j0 nodeA 10 Tryz.underlying163 hj hy0 hy1 .i64 .i64 3 (by rw [hy2];omega) (by unfold maxLen;omega) hWs
    have hbx:Below W.heap.size W W':=YD.grown h3 YA (fun k e=>by cases e)
    have hB:=Blk.made h2
    rw [Qlf] at hB
    have HB2:Hid (Blk 178 W' W.heap.size (nodeZ++(nodeZ++nodeZ))):=hB
    have HBX:Hid _:=hbx
    have h1':(Instr.makeSlice 163 (.int .i64 3) (.int .i64 3)).run Tryz.prog W = .ok (.slice (some ⟨W.heap.size,0,none⟩) 3 3) W':=h1
    clear hB h1 h2 h3 hbx
    go_simp
    exact hK.out _ _ (keep.out _ HBX.out) ⟨updX X 2 _,tgN tg W.heap.size 2,rfl,HJ.out.add HI.out HBX.out (CF.m2 HB2.out (QbZ YA) hWs),HB.out _ HBX.out⟩
   ·refine Qas rfl (fun K hK=>?_)
    go_simp
    refine (QhY c hc (some ⟨b,off,none⟩) q W HE.out).mono ?_
    rintro e W2 ⟨rfl,g3⟩
    exact hK.out _ _ (keep.out _ g3) ⟨updX X 4 _,tgN tg W.heap.size 4,rfl,HJ.out.add HI.out g3 CF.m4,HB.out _ g3⟩
   ·refine Qas rfl (fun K hK=>?_)
    have h4:4∈d:=HD.out 4 (by simp [depF])
    obtain⟨X,rfl⟩:=QfT ((HJ.out 4 h4).2.1 rfl)
    have e4:updX X 4 (.int .i64 (-(c:Int))) 4 = .int .i64 (-(c:Int)):=rfl
    have HBX:Hid (Below W.heap.size W (W.alloc (.cells #[.int .i64 (-(c:Int))] 2))):=YD.alloc YA _
    have HN:Hid (Blk 2 (W.alloc (.cells #[.int .i64 (-(c:Int))] 2)) W.heap.size [.int .i64 (-(c:Int))]):=heap_alloc_new W _
    go_simp
    exact hK.out _ _ (keep.out _ HBX.out) ⟨updX (updX X 4 (.int .i64 (-(c:Int)))) 5 _,tgN tg W.heap.size 5,rfl,HJ.out.add HI.out HBX.out (CF.m5 HN.out),HB.out _ HBX.out⟩
   ·refine Qas rfl (fun K hK=>?_)
    have h5:5∈d:=HD.out 5 (by simp [depF])
    obtain⟨bb,hX,hBb⟩:=(HJ.out 5 h5).2.2.1 rfl
    obtain⟨X,rfl⟩:=QfT hX
    have e5:updX X 5 (.slice (some ⟨bb,0,none⟩) 1 1) 5 = .slice (some ⟨bb,0,none⟩) 1 1:=rfl
    have hrp:=Qed (-(c:Int)) 2 (by omega) bb W (hBb.cell (j:=0) rfl)
    clear hBb hX
    go_simp
    refine hrp.mono ?_
    rintro e W2 ⟨g,rfl,g1,g2,g3⟩
    exact hK.out _ _ (keep.out _ g3) ⟨updX (updX X 5 (.slice (some ⟨bb,0,none⟩) 1 1)) 8 _,tgN tg W.heap.size 8,rfl,HJ.out.add HI.out g3 (CF.m8 g2 (QbZ g1) (by omega)),HB.out _ g3⟩
   ·refine Qas rfl (fun K hK=>?_)
    have HBX:Hid (Below W.heap.size W (W.alloc (.cells #[.int .i64 (-1)] 3))):=YD.alloc YA _
    have HN:Hid (Blk 3 (W.alloc (.cells #[.int .i64 (-1)] 3)) W.heap.size [.int .i64 (-1)]):=heap_alloc_new W _
    go_simp
    exact hK.out _ _ (keep.out _ HBX.out) ⟨updX X 9 _,tgN tg W.heap.size 9,rfl,HJ.out.add HI.out HBX.out (CF.m9 HN.out),HB.out _ HBX.out⟩
   ·refine Qas rfl (fun K hK=>?_)
    have h9:9∈d:=HD.out 9 (by simp [depF])
    obtain⟨bb,hX,hBb⟩:=(HJ.out 9 h9).2.2.2.2.1 rfl
    obtain⟨X,rfl⟩:=QfT hX
    have e9:updX X 9 (.slice (some ⟨bb,0,none⟩) 1 1) 9 = .slice (some ⟨bb,0,none⟩) 1 1:=rfl
    have hrp:=Qe1 (-1) 2 (by omega) bb W (hBb.cell (j:=0) rfl)
    clear hBb hX
    go_simp
    refine hrp.mono ?_
    rintro e W2 ⟨g,rfl,g1,g2,g3⟩
    exact hK.out _ _ (keep.out _ g3) ⟨updX (updX X 9 (.slice (some ⟨bb,0,none⟩) 1 1)) 12 _,tgN tg W.heap.size 12,rfl,HJ.out.add HI.out g3 (CF.m12 g2 (QbZ g1) (by omega)),HB.out _ g3⟩
   ·refine Qas rfl (fun K hK=>?_)
    have hmk:=run_make_row' (P:=Tryz.prog) 27 3 (.int .i64 0) 8 Tryz.underlying27 infoI rfl .i64 .i64 2 (by omega) (by omega)
    have HBX:Hid (Below W.heap.size W (W.alloc (.cells (madeCells #[.int .i64 0] 2) 3))):=YD.alloc YA _
    have HN:Hid (Blk 3 (W.alloc (.cells (madeCells #[.int .i64 0] 2) 3)) W.heap.size [.int .i64 0,.int .i64 0]):=by
     have h0:(W.alloc (.cells (madeCells #[.int .i64 0] 2) 3)).heap[W.heap.size]? = some (.cells (madeCells #[.int .i64 0] 2) 3 (0,0)):=heap_alloc_new W _
     have e:madeCells #[Value.int .i64 0] 2 = #[.int .i64 0,.int .i64 0]:=by kernel_rfl
     show _=_
     rw [← e]
     exact h0
    go_simp
    exact hK.out _ _ (keep.out _ HBX.out) ⟨updX X 15 _,tgN tg W.heap.size 15,rfl,HJ.out.add HI.out HBX.out (CF.m15 HN.out (QbZ YA) hWs),HB.out _ HBX.out⟩
   ·refine Qas rfl (fun K hK=>?_)
    go_simp
    refine (Qg4 c (some ⟨b,off,none⟩) q W HE.out).mono ?_
    rintro e W2 ⟨rb,b0,b1,rfl,g1,g3,g4⟩
    exact hK.out _ _ (keep.out _ g3) ⟨updX X 17 _,tgN tg W.heap.size 17,rfl,HJ.out.add HI.out g3 (CF.m17 g1 (fun k _ hk=>QbZ (by omega)) (by omega)),HB.out _ g3⟩
   ·refine Qas rfl (fun K hK=>?_)
    go_simp
    refine (Qhs 0 2 (by omega) (by omega) W).mono ?_
    rintro e W2 ⟨rb,bs,rfl,g1,g3,g4⟩
    exact hK.out _ _ (keep.out _ g3) ⟨updX X 20 _,tgN tg W.heap.size 20,rfl,HJ.out.add HI.out g3 (CF.m20 (R2.of g1) (fun k _ hk=>QbZ (by omega)) (by omega)),HB.out _ g3⟩
   ·refine Qas rfl (fun K hK=>?_)
    go_simp
    refine (QaR W).mono ?_
    rintro e W2 ⟨rfl,g3⟩
    exact hK.out _ _ (keep.out _ g3) ⟨updX X 22 _,tgN tg W.heap.size 22,rfl,HJ.out.add HI.out g3 CF.m22,HB.out _ g3⟩
   ·refine Qas rfl (fun K hK=>?_)
    have h22:22∈d:=HD.out 22 (by simp [depF])
    obtain⟨X,rfl⟩:=QfT ((HJ.out 22 h22).2.2.2.2.2.2.2.2.2.1 rfl)
    have e22:updX X 22 (.agg #[.int .i64 (-1),.int .i64 (-1)]) 22 = .agg #[.int .i64 (-1),.int .i64 (-1)]:=rfl
    go_simp
    refine (Qhq (-1) 3 (by omega) (by omega) W).mono ?_
    rintro e W2 ⟨rb,bs,rfl,g1,g3,g4⟩
    exact hK.out _ _ (keep.out _ g3) ⟨updX (updX X 22 (.agg #[.int .i64 (-1),.int .i64 (-1)])) 23 _,tgN tg W.heap.size 23,rfl,HJ.out.add HI.out g3 (CF.m23 (R3.of g1) (fun k _ hk=>QbZ (by omega)) (by omega)),HB.out _ g3⟩
  ·intro d a W hall hJ
   obtain⟨X,tg,rfl,hJ,hb⟩:=hJ
   have hin:∀ i,i∈[2,4,5,8,9,12,15,17,20,22,23]→CF c (xb+1) i (X i) tg W:=fun i hi=>hJ i (hall i hi)
   obtain⟨nb,e2,n2,g2,l2⟩:=(hin 2 (by simp)).1 rfl
   obtain⟨yb,e8,n8,g8,l8⟩:=(hin 8 (by simp)).2.2.2.1 rfl
   obtain⟨mb,e12,n12,g12,l12⟩:=(hin 12 (by simp)).2.2.2.2.2.1 rfl
   obtain⟨tb,e15,n15,g15,l15⟩:=(hin 15 (by simp)).2.2.2.2.2.2.1 rfl
   obtain⟨pb,p0,p1,e17,n17,g17a,g17b,g17c,l17⟩:=(hin 17 (by simp)).2.2.2.2.2.2.2.1 rfl
   obtain⟨wb,u0,u1,e20,n20,g20a,g20b,g20c,l20⟩:=(hin 20 (by simp)).2.2.2.2.2.2.2.2.1 rfl
   obtain⟨bb,b0,b1,b2,e23,n23,g23a,g23b,g23c,g23d,l23⟩:=(hin 23 (by simp)).2.2.2.2.2.2.2.2.2.2 rfl
   clear hin hall hJ
   have hWs:xb+1≤W.heap.size:=by have:=hb.size;omega
   have hHeld2:W.cell? ⟨xb,0,none⟩=some (.int .i64 2)∧W.cell? ⟨xb,1,none⟩=some (.slice (some ⟨b,off,none⟩) 1 q):=⟨(hb.cell (p:=⟨xb,0,none⟩) (by simp)).trans q0,(hb.cell (p:=⟨xb,1,none⟩) (by simp)).trans q1⟩
   clear hHeld
   dsimp only
   refine wpAnyH_ready (rs:=[24]) (by kernel_rfl) (by simp) ?_
   refine AllReadyH.cons rfl (fun K hK=>?_) AllReadyH.nil
   go_simp
   refine hK.out _ _ ?_ (fun hHeld=>?_)
   ·(try dsimp only);first | (go_keep;done) | ((repeat' apply And.intro) <;> go_simp)
   clear hK K
   try simp only [YS,YT,YU]
   refine wpAnyH_ready (rs:=[25]) (by kernel_rfl) (by simp) ?_
   refine AllReadyH.cons rfl (fun K hK=>?_) AllReadyH.nil
   go_simp
   refine hK.out _ _ ?_ (fun hHeld=>?_)
   ·(try dsimp only);first | (go_keep;done) | ((repeat' apply And.intro) <;> go_simp)
   clear hK K
   try simp only [YS,YT,YU]
   refine wpAnyH_ready (rs:=[26]) (by kernel_rfl) (by simp) ?_
   refine AllReadyH.cons rfl (fun K hK=>?_) AllReadyH.nil
   go_simp
   refine hK.out _ _ ?_ (fun hHeld=>?_)
   ·(try dsimp only);first | (go_keep;done) | ((repeat' apply And.intro) <;> go_simp)
   clear hK K
   try simp only [YS,YT,YU]
   refine wpAnyH_done (by kernel_rfl) ?_ _
   have hbW:Below W.heap.size W (W.alloc (.cells #[.int .i64 2,.slice (some ⟨b,off,none⟩) 1 q,.slice (some ⟨nb,0,none⟩) 3 3,.slice none 0 0,.slice (some ⟨yb,0,none⟩) 2 2,.slice (some ⟨mb,0,none⟩) 2 2,.slice (some ⟨tb,0,none⟩) 2 2,.slice (some ⟨pb,0,none⟩) 2 2,.slice (some ⟨wb,0,none⟩) 2 2,.slice (some ⟨bb,0,none⟩) 3 3] 174)):=YD.alloc YA _
   have hnew:Blk 174 (W.alloc (.cells #[.int .i64 2,.slice (some ⟨b,off,none⟩) 1 q,.slice (some ⟨nb,0,none⟩) 3 3,.slice none 0 0,.slice (some ⟨yb,0,none⟩) 2 2,.slice (some ⟨mb,0,none⟩) 2 2,.slice (some ⟨tb,0,none⟩) 2 2,.slice (some ⟨pb,0,none⟩) 2 2,.slice (some ⟨wb,0,none⟩) 2 2,.slice (some ⟨bb,0,none⟩) 3 3] 174)) W.heap.size [.int .i64 2,.slice (some ⟨b,off,none⟩) 1 q,.slice (some ⟨nb,0,none⟩) 3 3,.slice none 0 0,.slice (some ⟨yb,0,none⟩) 2 2,.slice (some ⟨mb,0,none⟩) 2 2,.slice (some ⟨tb,0,none⟩) 2 2,.slice (some ⟨pb,0,none⟩) 2 2,.slice (some ⟨wb,0,none⟩) 2 2,.slice (some ⟨bb,0,none⟩) 3 3]:=heap_alloc_new W _
   have hFP:FP (xb+1) w1 (bkF W.heap.size nb yb mb tb pb p0 p1 wb u0 u1 bb b0 b1 b2) b off c:=by
    refine⟨QpB (tg:=tgN tg W.heap.size 25) (Qa9 (QbZ YA) ((QaQ n2.lt).trans g2) ((QaQ n8.lt).trans g8) ((QaQ n12.lt).trans g12) ((QaQ n15.lt).trans g15) ((QaQ n17.rows.lt).trans g17a) ((QaQ n17.r0.lt).trans g17b) ((QaQ n17.r1.lt).trans g17c) ((QaQ n20.rows.lt).trans g20a) ((QaQ n20.r0.lt).trans g20b) ((QaQ n20.r1.lt).trans g20c) ((QaQ n23.rows.lt).trans g23a) ((QaQ n23.r0.lt).trans g23b) ((QaQ n23.r1.lt).trans g23c) ((QaQ n23.r2.lt).trans g23d)) n17.lt0 n17.lt1 n20.lt0 n20.lt1 n23.lt0 n23.lt1 n23.lt2,?_,fun W' h=>HC.out W' (hb1.trans (h.mono (by omega))),hc,by omega⟩
    have a1:=n17.lt0
    have a2:=n17.lt1
    have a3:=n20.lt0
    have a4:=n20.lt1
    have a5:=n23.lt0
    have a6:=n23.lt1
    have a7:=n23.lt2
    refine Qa9 ?_ ?_ ?_ ?_ ?_ ?_ ?_ ?_ ?_ ?_ ?_ ?_ ?_ ?_ ?_
    ·exact hWs
    ·exact l2
    ·exact l8
    ·exact l12
    ·exact l15
    ·exact l17
    ·show xb+1≤p0;omega
    ·show xb+1≤p1;omega
    ·exact l20
    ·show xb+1≤u0;omega
    ·show xb+1≤u1;omega
    ·exact l23
    ·show xb+1≤b0;omega
    ·show xb+1≤b1;omega
    ·show xb+1≤b2;omega
   have hFM:FM (xb+1) w1 (bkF W.heap.size nb yb mb tb pb p0 p1 wb u0 u1 bb b0 b1 b2) (.slice (some ⟨b,off,none⟩) 1 q) (V0 c) (W.alloc (.cells #[.int .i64 2,.slice (some ⟨b,off,none⟩) 1 q,.slice (some ⟨nb,0,none⟩) 3 3,.slice none 0 0,.slice (some ⟨yb,0,none⟩) 2 2,.slice (some ⟨mb,0,none⟩) 2 2,.slice (some ⟨tb,0,none⟩) 2 2,.slice (some ⟨pb,0,none⟩) 2 2,.slice (some ⟨wb,0,none⟩) 2 2,.slice (some ⟨bb,0,none⟩) 3 3] 174)):=
    ⟨Qa9 hnew (n2.go hbW) (n8.go hbW) (n12.go hbW) (n15.go hbW) (n17.rows.go hbW) (n17.r0.go hbW) (n17.r1.go hbW) (n20.rows.go hbW) (n20.r0.go hbW) (n20.r1.go hbW) (n23.rows.go hbW) (n23.r0.go hbW) (n23.r1.go hbW) (n23.r2.go hbW),hb.trans (hbW.mono hWs)⟩
   go_wp2
   go_meet
   exact⟨_,rfl,hFP,hFM⟩
  ·exact⟨fun _=>undef,fun _=>0,rfl,JF.nil _ _ _ _ _,Qaa YD 1⟩
 case rest=>
  obtain⟨Bk,rfl,hP,hM⟩:=hcut
  have d1:Bk 0≠Bk 1:=hP.ne (by omega) (by omega) (by omega)
  have d2:Bk 0≠Bk 4:=hP.ne (by omega) (by omega) (by omega)
  have d3:Bk 4≠Bk 1:=hP.ne (by omega) (by omega) (by omega)
  have l0:=hP.lo 0 (by omega)
  have l1:=hP.lo 1 (by omega)
  have l4:=hP.lo 4 (by omega)
  have d4:xb≠Bk 1:=by omega
  have d5:xb≠Bk 4:=by omega
  have q2:=(hM.bel.cell (p:=⟨xb,0,none⟩) (by simp)).trans q0
  have HM:Hid (FM (xb+1) w1 Bk (.slice (some ⟨b,off,none⟩) 1 q) (V0 c) wc):=hM
  clear hM q1
  go_wp2
  go_loopw [41] (fun i wr=>(i = .int .i64 0∧FM (xb+1) w1 Bk (.slice (some ⟨b,off,none⟩) 1 q) (V0 c) wr)∨(i = .int .i64 1∧FM (xb+1) w1 Bk (.slice (some ⟨b,off,none⟩) 1 q) (V1 c) wr)∨(i = .int .i64 2∧FM (xb+1) w1 Bk (.slice (some ⟨b,off,none⟩) 1 q) (V2 c) wr)) (fun i _=>2-(intOf i).toNat)
  case atStart=>exact .inl ⟨rfl,HM.out⟩
  case round=>
   clear HM q2
   rcases hrel with ⟨rfl,hM⟩ | ⟨rfl,hM⟩ | ⟨rfl,hM⟩
   ·have q2:=(hM.bel.cell (p:=⟨xb,0,none⟩) (by simp)).trans q0
    have g2:=hM.cell 0 2 (by omega) rfl
    have g6:=hM.cell 0 6 (by omega) rfl
    have n0:=hM.cell 1 0 (by omega) rfl
    have f0:=hM.frozen 1 0 (by omega)
    have n1:=hM.cell 1 1 (by omega) rfl
    have f1:=hM.frozen 1 1 (by omega)
    have n2:=hM.cell 1 2 (by omega) rfl
    have f2:=hM.frozen 1 2 (by omega)
    have n3:=hM.cell 1 3 (by omega) rfl
    have f3:=hM.frozen 1 3 (by omega)
    have n4:=hM.cell 1 4 (by omega) rfl
    have f4:=hM.frozen 1 4 (by omega)
    have n5:=hM.cell 1 5 (by omega) rfl
    have f5:=hM.frozen 1 5 (by omega)
    have n6:=hM.cell 1 6 (by omega) rfl
    have f6:=hM.frozen 1 6 (by omega)
    have n7:=hM.cell 1 7 (by omega) rfl
    have f7:=hM.frozen 1 7 (by omega)
    have n8:=hM.cell 1 8 (by omega) rfl
    have f8:=hM.frozen 1 8 (by omega)
    have n9:=hM.cell 1 9 (by omega) rfl
    have f9:=hM.frozen 1 9 (by omega)
    have t0:=hM.cell 4 0 (by omega) rfl
    have u0:=hM.frozen 4 0 (by omega)
    have HM1:Hid (FM (xb+1) w1 Bk (.slice (some ⟨b,off,none⟩) 1 q) (V1 c) (((((((((((wr.setCell ⟨Bk 1,0,none⟩ (.int .i64 0)).setCell ⟨Bk 1,1,none⟩ (.int .i64 0)).setCell ⟨Bk 1,2,none⟩ (.int .i64 0)).setCell ⟨Bk 1,3,none⟩ (.int .i64 0)).setCell ⟨Bk 1,4,none⟩ (.int .i64 0)).setCell ⟨Bk 1,5,none⟩ (.int .i64 (-1))).setCell ⟨Bk 1,6,none⟩ (.int .i64 0)).setCell ⟨Bk 1,7,none⟩ (.slice none 0 0)).setCell ⟨Bk 1,8,none⟩ (.slice none 0 0)).setCell ⟨Bk 1,9,none⟩ (.int .i64 0)).setCell ⟨Bk 4,0,none⟩ (.int .i64 0))):=(((((((((((hM.setN hP 0 (.int .i64 0)).setN hP 1 (.int .i64 0)).setN hP 2 (.int .i64 0)).setN hP 3 (.int .i64 0)).setN hP 4 (.int .i64 0)).setN hP 5 (.int .i64 (-1))).setN hP 6 (.int .i64 0)).setN hP 7 (.slice none 0 0)).setN hP 8 (.slice none 0 0)).setN hP 9 (.int .i64 0)).setT hP 0 (.int .i64 0))
    clear hM
    go_wp2
    exact⟨.inr (.inl ⟨rfl,HM1.out⟩),by simp [intOf]⟩
   ·have q2:=(hM.bel.cell (p:=⟨xb,0,none⟩) (by simp)).trans q0
    have g2:=hM.cell 0 2 (by omega) rfl
    have g6:=hM.cell 0 6 (by omega) rfl
    have n0:=hM.cell 1 10 (by omega) rfl
    have f0:=hM.frozen 1 10 (by omega)
    have n1:=hM.cell 1 11 (by omega) rfl
    have f1:=hM.frozen 1 11 (by omega)
    have n2:=hM.cell 1 12 (by omega) rfl
    have f2:=hM.frozen 1 12 (by omega)
    have n3:=hM.cell 1 13 (by omega) rfl
    have f3:=hM.frozen 1 13 (by omega)
    have n4:=hM.cell 1 14 (by omega) rfl
    have f4:=hM.frozen 1 14 (by omega)
    have n5:=hM.cell 1 15 (by omega) rfl
    have f5:=hM.frozen 1 15 (by omega)
    have n6:=hM.cell 1 16 (by omega) rfl
    have f6:=hM.frozen 1 16 (by omega)
    have n7:=hM.cell 1 17 (by omega) rfl
    have f7:=hM.frozen 1 17 (by omega)
    have n8:=hM.cell 1 18 (by omega) rfl
    have f8:=hM.frozen 1 18 (by omega)
    have n9:=hM.cell 1 19 (by omega) rfl
    have f9:=hM.frozen 1 19 (by omega)
    have t0:=hM.cell 4 1 (by omega) rfl
    have u0:=hM.frozen 4 1 (by omega)
    have HM1:Hid (FM (xb+1) w1 Bk (.slice (some ⟨b,off,none⟩) 1 q) (V2 c) (((((((((((wr.setCell ⟨Bk 1,10,none⟩ (.int .i64 0)).setCell ⟨Bk 1,11,none⟩ (.int .i64 0)).setCell ⟨Bk 1,12,none⟩ (.int .i64 0)).setCell ⟨Bk 1,13,none⟩ (.int .i64 0)).setCell ⟨Bk 1,14,none⟩ (.int .i64 0)).setCell ⟨Bk 1,15,none⟩ (.int .i64 (-1))).setCell ⟨Bk 1,16,none⟩ (.int .i64 1)).setCell ⟨Bk 1,17,none⟩ (.slice none 0 0)).setCell ⟨Bk 1,18,none⟩ (.slice none 0 0)).setCell ⟨Bk 1,19,none⟩ (.int .i64 0)).setCell ⟨Bk 4,1,none⟩ (.int .i64 1))):=(((((((((((hM.setN hP 10 (.int .i64 0)).setN hP 11 (.int .i64 0)).setN hP 12 (.int .i64 0)).setN hP 13 (.int .i64 0)).setN hP 14 (.int .i64 0)).setN hP 15 (.int .i64 (-1))).setN hP 16 (.int .i64 1)).setN hP 17 (.slice none 0 0)).setN hP 18 (.slice none 0 0)).setN hP 19 (.int .i64 0)).setT hP 1 (.int .i64 1))
    clear hM
    go_wp2
    exact⟨.inr (.inr ⟨rfl,HM1.out⟩),by simp [intOf]⟩
   ·have q2:=(hM.bel.cell (p:=⟨xb,0,none⟩) (by simp)).trans q0
    have HM:Hid (FM (xb+1) w1 Bk (.slice (some ⟨b,off,none⟩) 1 q) (V2 c) wr):=hM
    clear hM
    go_wp2
    go_loopw [6] (fun i wr=>(i = .int .i64 2∧FM (xb+1) w1 Bk (.slice (some ⟨b,off,none⟩) 1 q) (V2 c) wr)∨(i = .int .i64 3∧∃ sp,FM (xb+1) w1 Bk (.slice (some ⟨b,off,none⟩) 1 q) (V3 c sp) wr)) (fun i _=>3-(intOf i).toNat)
    case atStart=>exact .inl ⟨rfl,HM.out⟩
    case round=>
     clear HM q2
     rcases hrel with ⟨rfl,hM⟩ | ⟨rfl,sp,hM⟩
     ·have hrt:=Qji (xb+1) w1 Bk b off c q hP wr hM
      clear hM
      go_wp2_with fail
      refine hrt.mono ?_
      rintro e w5 ⟨rfl,sp,hM5⟩
      clear hrt
      go_wp2
      exact⟨.inr ⟨rfl,sp,hM5⟩,by simp [intOf]⟩
     ·have hly:=QoV (xb+1) w1 Bk b off c q sp hP wr hM
      clear hM
      go_wp2_with fail
      refine hly.mono ?_
      rintro e w5 ⟨rfl,hM5⟩
      clear hly
      go_wp2
      go_ret
      exact⟨b,off,xb+1,w1,Bk,sp,rfl,rfl,by rw [hxb];exact hb1,by omega,hP,hM5⟩
end Go.Proofs.YtalflecmadacaaaGreat
