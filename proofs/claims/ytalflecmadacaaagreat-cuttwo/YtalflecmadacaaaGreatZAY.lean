import Derived.Test.YtalflecmadacaaaGreatZAX
import Derived.Deep.LoopGhost
import Derived.Test.YtalflecmadacaaaGreatZAA
set_option maxRecDepth 100000
set_option maxHeartbeats 8000000
namespace Go.Proofs.YtalflecmadacaaaGreat
open Go Go.Proofs Go.RowKit
section
variable (x:Nat) (w0:World) (Bk:Nat→Nat) (b off c q:Nat) (sp:Value)
theorem QkW (hP:FP x w0 Bk b off c)(w:World)(hM:FM x w0 Bk (.slice (some ⟨b,off,none⟩) 1 q) (VS c sp nA nB nC (-(c:Int)) (-(c:Int)) (-1) (-1)) w):Calls Tryz.prog 142 #[.pointer (some ⟨Bk 0,0,none⟩)] w fun e w'=>e = .returned (.tuple #[])∧FM x w0 Bk (.slice (some ⟨b,off,none⟩) 1 q) (VS c sp A2 B2 C0 (-(c:Int)) (-(c:Int)) (-1) (-1)) w':=by
 have hmix:=mixed
 have HP:Hid (FP x w0 Bk b off c):=hP
 have k2:=hM.cell 0 2 (by omega) rfl
 have d1:Bk 0≠Bk 1:=hP.ne (by omega) (by omega) (by omega)
 have HM:Hid (FM x w0 Bk (.slice (some ⟨b,off,none⟩) 1 q) (VS c sp nA nB nC (-(c:Int)) (-(c:Int)) (-1) (-1)) w):=hM
 clear hM hP
 go_enter Tryz.func142,Tryz.ntmps142
 go_wp2
 go_loopw [9] (fun i wr=>(i = .int .i64 0∧FM x w0 Bk (.slice (some ⟨b,off,none⟩) 1 q) (VS c sp nA nB nC (-(c:Int)) (-(c:Int)) (-1) (-1)) wr)∨(i = .int .i64 1∧FM x w0 Bk (.slice (some ⟨b,off,none⟩) 1 q) (VS c sp A0 nB nC (-(c:Int)) (-(c:Int)) (-1) (-1)) wr)∨(i = .int .i64 2∧FM x w0 Bk (.slice (some ⟨b,off,none⟩) 1 q) (VS c sp A0 B0 nC (-(c:Int)) (-(c:Int)) (-1) (-1)) wr)∨(i = .int .i64 3∧FM x w0 Bk (.slice (some ⟨b,off,none⟩) 1 q) (VS c sp A0 B0 C0 (-(c:Int)) (-(c:Int)) (-1) (-1)) wr)) (fun i _=>3-(intOf i).toNat)
 case atStart=>exact .inl ⟨rfl,HM.out⟩
 case round=>
  clear HM k2
  rcases hrel with ⟨rfl,hM⟩ | ⟨rfl,hM⟩ | ⟨rfl,hM⟩ | ⟨rfl,hM⟩
  ·have k2:=hM.cell 0 2 (by omega) rfl
   have hxw:x≤wr.heap.size:=by have h1:=hM.lt 0 (by omega);have h2:=HP.out.lo 0 (by omega);omega
   have HM:Hid (FM x w0 Bk (.slice (some ⟨b,off,none⟩) 1 q) (VS c sp nA nB nC (-(c:Int)) (-(c:Int)) (-1) (-1)) wr):=hM
   clear hM
   go_wp2
   refine wp_region_held_drew (S:=(fun w':World=>w'.cell? ⟨Bk 0,2,none⟩=some (.slice (some ⟨Bk 1,0,none⟩) 3 3))) (by kernel_rfl) k2 (fun hHeld=>?_)
   refine tH 0 ?_
   try simp only [YS]
   refine tH 1 ?_
   refine tH 2 ?_
   refine tH 3 ?_
   refine tH 4 ?_
   refine tH 5 ?_
   refine tH 6 ?_
   simp only [YS,YT,YU]
   refine tH 7 ?_
   refine tH 8 ?_
   refine tH 9 ?_
   refine tH 10 ?_
   refine tH 11 ?_
   simp only [YS,YT,YU]
   refine tH 12 ?_
   refine tH 13 ?_
   refine tH 14 ?_
   simp only [YS,YT,YU]
   refine wpAnyH_ready (rs:=[15]) (by kernel_rfl) (by simp) ?_
   refine AllReadyH.cons rfl (fun K hK=>?_) AllReadyH.nil
   go_simp
   refine (QaR wr.drew).mono ?_
   rintro e w2 ⟨rfl,hb2⟩
   have hM2:=HM.out.drew.go hxw hb2
   have hb2s:=hb2.size
   refine hK.out _ _ (hM2.cell 0 2 (by omega) rfl) (fun hHeld2=>?_)
   clear hK K hHeld
   try simp only [Act.put,YS,YT,YU]
   refine wpAnyH_ready (rs:=[16]) (by kernel_rfl) (by simp) ?_
   refine AllReadyH.cons rfl (fun K hK=>?_) AllReadyH.nil
   go_simp
   refine (QaR w2).mono ?_
   rintro e w3 ⟨rfl,hb3⟩
   have hxw2:x≤w2.heap.size:=by have h1:=hM2.lt 0 (by omega);have h2:=HP.out.lo 0 (by omega);omega
   have hM3:=hM2.go hxw2 hb3
   refine hK.out _ _ (hM3.cell 0 2 (by omega) rfl) (fun hHeld3=>?_)
   clear hK K hHeld2 hM2 hb2 hb3 hb2s HM
   try simp only [Act.put,YS,YT,YU]
   have c0:=hM3.cell 1 0 (by omega) rfl
   have f0:=hM3.frozen 1 0 (by omega)
   have c1:=hM3.cell 1 1 (by omega) rfl
   have f1:=hM3.frozen 1 1 (by omega)
   have c2:=hM3.cell 1 2 (by omega) rfl
   have f2:=hM3.frozen 1 2 (by omega)
   have c3:=hM3.cell 1 3 (by omega) rfl
   have f3:=hM3.frozen 1 3 (by omega)
   have c4:=hM3.cell 1 4 (by omega) rfl
   have f4:=hM3.frozen 1 4 (by omega)
   have HM4:Hid (FM x w0 Bk (.slice (some ⟨b,off,none⟩) 1 q) (VS c sp A0 nB nC (-(c:Int)) (-(c:Int)) (-1) (-1)) (((((w3.setCell ⟨Bk 1,0,none⟩ (.int .i64 0)).setCell ⟨Bk 1,1,none⟩ (.int .i64 (-1))).setCell ⟨Bk 1,2,none⟩ (.int .i64 (-1))).setCell ⟨Bk 1,3,none⟩ (.int .i64 (-1))).setCell ⟨Bk 1,4,none⟩ (.int .i64 (-1)))):=(((((hM3.setN HP.out 0 _).setN HP.out 1 _).setN HP.out 2 _).setN HP.out 3 _).setN HP.out 4 _)
   clear hM3
   refine tH 17 ?_
   refine tH 18 ?_
   simp only [YS,YT,YU]
   refine wpAnyH_ready (rs:=[19]) (by kernel_rfl) (by simp) ?_
   refine AllReadyH.cons rfl (fun K hK=>?_) AllReadyH.nil
   go_simp
   refine hK.out _ _ ?_ (fun hHeld=>?_)
   ·(try dsimp only);first | (go_keep;done) | ((repeat' apply And.intro) <;> go_simp)
   clear hK K
   try simp only [YS,YT,YU]
   refine tH 20 ?_
   refine tH 21 ?_
   simp only [YS,YT,YU]
   refine wpAnyH_ready (rs:=[22]) (by kernel_rfl) (by simp) ?_
   refine AllReadyH.cons rfl (fun K hK=>?_) AllReadyH.nil
   go_simp
   refine hK.out _ _ ?_ (fun hHeld=>?_)
   ·(try dsimp only);first | (go_keep;done) | ((repeat' apply And.intro) <;> go_simp)
   clear hK K
   try simp only [YS,YT,YU]
   refine tH 23 ?_
   refine tH 24 ?_
   simp only [YS,YT,YU]
   refine wpAnyH_ready (rs:=[25]) (by kernel_rfl) (by simp) ?_
   refine AllReadyH.cons rfl (fun K hK=>?_) AllReadyH.nil
   go_simp
   refine hK.out _ _ ?_ (fun hHeld=>?_)
   ·(try dsimp only);first | (go_keep;done) | ((repeat' apply And.intro) <;> go_simp)
   clear hK K
   try simp only [YS,YT,YU]
   refine wpAnyH_done (by kernel_rfl) ?_ _
   go_wp2
   have HM:=HM4
   exact⟨.inr (.inl ⟨rfl,HM.out⟩),by simp [intOf]⟩
  ·have k2:=hM.cell 0 2 (by omega) rfl
   have hxw:x≤wr.heap.size:=by have h1:=hM.lt 0 (by omega);have h2:=HP.out.lo 0 (by omega);omega
   have HM:Hid (FM x w0 Bk (.slice (some ⟨b,off,none⟩) 1 q) (VS c sp A0 nB nC (-(c:Int)) (-(c:Int)) (-1) (-1)) wr):=hM
   clear hM
   go_wp2
   refine wp_region_held_drew (S:=(fun w':World=>w'.cell? ⟨Bk 0,2,none⟩=some (.slice (some ⟨Bk 1,0,none⟩) 3 3))) (by kernel_rfl) k2 (fun hHeld=>?_)
   refine tH 0 ?_
   try simp only [YS]
   refine tH 1 ?_
   refine tH 2 ?_
   refine tH 3 ?_
   refine tH 4 ?_
   refine tH 5 ?_
   refine tH 6 ?_
   simp only [YS,YT,YU]
   refine tH 7 ?_
   refine tH 8 ?_
   refine tH 9 ?_
   refine tH 10 ?_
   refine tH 11 ?_
   simp only [YS,YT,YU]
   refine tH 12 ?_
   refine tH 13 ?_
   refine tH 14 ?_
   simp only [YS,YT,YU]
   refine wpAnyH_ready (rs:=[15]) (by kernel_rfl) (by simp) ?_
   refine AllReadyH.cons rfl (fun K hK=>?_) AllReadyH.nil
   go_simp
   refine (QaR wr.drew).mono ?_
   rintro e w2 ⟨rfl,hb2⟩
   have hM2:=HM.out.drew.go hxw hb2
   have hb2s:=hb2.size
   refine hK.out _ _ (hM2.cell 0 2 (by omega) rfl) (fun hHeld2=>?_)
   clear hK K hHeld
   try simp only [Act.put,YS,YT,YU]
   refine wpAnyH_ready (rs:=[16]) (by kernel_rfl) (by simp) ?_
   refine AllReadyH.cons rfl (fun K hK=>?_) AllReadyH.nil
   go_simp
   refine (QaR w2).mono ?_
   rintro e w3 ⟨rfl,hb3⟩
   have hxw2:x≤w2.heap.size:=by have h1:=hM2.lt 0 (by omega);have h2:=HP.out.lo 0 (by omega);omega
   have hM3:=hM2.go hxw2 hb3
   refine hK.out _ _ (hM3.cell 0 2 (by omega) rfl) (fun hHeld3=>?_)
   clear hK K hHeld2 hM2 hb2 hb3 hb2s HM
   try simp only [Act.put,YS,YT,YU]
   have c0:=hM3.cell 1 10 (by omega) rfl
   have f0:=hM3.frozen 1 10 (by omega)
   have c1:=hM3.cell 1 11 (by omega) rfl
   have f1:=hM3.frozen 1 11 (by omega)
   have c2:=hM3.cell 1 12 (by omega) rfl
   have f2:=hM3.frozen 1 12 (by omega)
   have c3:=hM3.cell 1 13 (by omega) rfl
   have f3:=hM3.frozen 1 13 (by omega)
   have c4:=hM3.cell 1 14 (by omega) rfl
   have f4:=hM3.frozen 1 14 (by omega)
   have HM4:Hid (FM x w0 Bk (.slice (some ⟨b,off,none⟩) 1 q) (VS c sp A0 B0 nC (-(c:Int)) (-(c:Int)) (-1) (-1)) (((((w3.setCell ⟨Bk 1,10,none⟩ (.int .i64 0)).setCell ⟨Bk 1,11,none⟩ (.int .i64 (-1))).setCell ⟨Bk 1,12,none⟩ (.int .i64 (-1))).setCell ⟨Bk 1,13,none⟩ (.int .i64 (-1))).setCell ⟨Bk 1,14,none⟩ (.int .i64 (-1)))):=(((((hM3.setN HP.out 10 _).setN HP.out 11 _).setN HP.out 12 _).setN HP.out 13 _).setN HP.out 14 _)
   clear hM3
   refine tH 17 ?_
   refine tH 18 ?_
   simp only [YS,YT,YU]
   refine wpAnyH_ready (rs:=[19]) (by kernel_rfl) (by simp) ?_
   refine AllReadyH.cons rfl (fun K hK=>?_) AllReadyH.nil
   go_simp
   refine hK.out _ _ ?_ (fun hHeld=>?_)
   ·(try dsimp only);first | (go_keep;done) | ((repeat' apply And.intro) <;> go_simp)
   clear hK K
   try simp only [YS,YT,YU]
   refine tH 20 ?_
   refine tH 21 ?_
   simp only [YS,YT,YU]
   refine wpAnyH_ready (rs:=[22]) (by kernel_rfl) (by simp) ?_
   refine AllReadyH.cons rfl (fun K hK=>?_) AllReadyH.nil
   go_simp
   refine hK.out _ _ ?_ (fun hHeld=>?_)
   ·(try dsimp only);first | (go_keep;done) | ((repeat' apply And.intro) <;> go_simp)
   clear hK K
   try simp only [YS,YT,YU]
   refine tH 23 ?_
   refine tH 24 ?_
   simp only [YS,YT,YU]
   refine wpAnyH_ready (rs:=[25]) (by kernel_rfl) (by simp) ?_
   refine AllReadyH.cons rfl (fun K hK=>?_) AllReadyH.nil
   go_simp
   refine hK.out _ _ ?_ (fun hHeld=>?_)
   ·(try dsimp only);first | (go_keep;done) | ((repeat' apply And.intro) <;> go_simp)
   clear hK K
   try simp only [YS,YT,YU]
   refine wpAnyH_done (by kernel_rfl) ?_ _
   go_wp2
   have HM:=HM4
   exact⟨.inr (.inr (.inl ⟨rfl,HM.out⟩)),by simp [intOf]⟩
  ·have k2:=hM.cell 0 2 (by omega) rfl
   have hxw:x≤wr.heap.size:=by have h1:=hM.lt 0 (by omega);have h2:=HP.out.lo 0 (by omega);omega
   have HM:Hid (FM x w0 Bk (.slice (some ⟨b,off,none⟩) 1 q) (VS c sp A0 B0 nC (-(c:Int)) (-(c:Int)) (-1) (-1)) wr):=hM
   clear hM
   go_wp2
   refine wp_region_held_drew (S:=(fun w':World=>w'.cell? ⟨Bk 0,2,none⟩=some (.slice (some ⟨Bk 1,0,none⟩) 3 3))) (by kernel_rfl) k2 (fun hHeld=>?_)
   refine tH 0 ?_
   try simp only [YS]
   refine tH 1 ?_
   refine tH 2 ?_
   refine tH 3 ?_
   refine tH 4 ?_
   refine tH 5 ?_
   refine tH 6 ?_
   simp only [YS,YT,YU]
   refine tH 7 ?_
   refine tH 8 ?_
   refine tH 9 ?_
   refine tH 10 ?_
   refine tH 11 ?_
   simp only [YS,YT,YU]
   refine tH 12 ?_
   refine tH 13 ?_
   refine tH 14 ?_
   simp only [YS,YT,YU]
   refine wpAnyH_ready (rs:=[15]) (by kernel_rfl) (by simp) ?_
   refine AllReadyH.cons rfl (fun K hK=>?_) AllReadyH.nil
   go_simp
   refine (QaR wr.drew).mono ?_
   rintro e w2 ⟨rfl,hb2⟩
   have hM2:=HM.out.drew.go hxw hb2
   have hb2s:=hb2.size
   refine hK.out _ _ (hM2.cell 0 2 (by omega) rfl) (fun hHeld2=>?_)
   clear hK K hHeld
   try simp only [Act.put,YS,YT,YU]
   refine wpAnyH_ready (rs:=[16]) (by kernel_rfl) (by simp) ?_
   refine AllReadyH.cons rfl (fun K hK=>?_) AllReadyH.nil
   go_simp
   refine (QaR w2).mono ?_
   rintro e w3 ⟨rfl,hb3⟩
   have hxw2:x≤w2.heap.size:=by have h1:=hM2.lt 0 (by omega);have h2:=HP.out.lo 0 (by omega);omega
   have hM3:=hM2.go hxw2 hb3
   refine hK.out _ _ (hM3.cell 0 2 (by omega) rfl) (fun hHeld3=>?_)
   clear hK K hHeld2 hM2 hb2 hb3 hb2s HM
   try simp only [Act.put,YS,YT,YU]
   have c0:=hM3.cell 1 20 (by omega) rfl
   have f0:=hM3.frozen 1 20 (by omega)
   have c1:=hM3.cell 1 21 (by omega) rfl
   have f1:=hM3.frozen 1 21 (by omega)
   have c2:=hM3.cell 1 22 (by omega) rfl
   have f2:=hM3.frozen 1 22 (by omega)
   have c3:=hM3.cell 1 23 (by omega) rfl
   have f3:=hM3.frozen 1 23 (by omega)
   have c4:=hM3.cell 1 24 (by omega) rfl
   have f4:=hM3.frozen 1 24 (by omega)
   have HM4:Hid (FM x w0 Bk (.slice (some ⟨b,off,none⟩) 1 q) (VS c sp A0 B0 C0 (-(c:Int)) (-(c:Int)) (-1) (-1)) (((((w3.setCell ⟨Bk 1,20,none⟩ (.int .i64 0)).setCell ⟨Bk 1,21,none⟩ (.int .i64 (-1))).setCell ⟨Bk 1,22,none⟩ (.int .i64 (-1))).setCell ⟨Bk 1,23,none⟩ (.int .i64 (-1))).setCell ⟨Bk 1,24,none⟩ (.int .i64 (-1)))):=(((((hM3.setN HP.out 20 _).setN HP.out 21 _).setN HP.out 22 _).setN HP.out 23 _).setN HP.out 24 _)
   clear hM3
   refine tH 17 ?_
   refine tH 18 ?_
   simp only [YS,YT,YU]
   refine wpAnyH_ready (rs:=[19]) (by kernel_rfl) (by simp) ?_
   refine AllReadyH.cons rfl (fun K hK=>?_) AllReadyH.nil
   go_simp
   refine hK.out _ _ ?_ (fun hHeld=>?_)
   ·(try dsimp only);first | (go_keep;done) | ((repeat' apply And.intro) <;> go_simp)
   clear hK K
   try simp only [YS,YT,YU]
   refine tH 20 ?_
   refine tH 21 ?_
   simp only [YS,YT,YU]
   refine wpAnyH_ready (rs:=[22]) (by kernel_rfl) (by simp) ?_
   refine AllReadyH.cons rfl (fun K hK=>?_) AllReadyH.nil
   go_simp
   refine hK.out _ _ ?_ (fun hHeld=>?_)
   ·(try dsimp only);first | (go_keep;done) | ((repeat' apply And.intro) <;> go_simp)
   clear hK K
   try simp only [YS,YT,YU]
   refine tH 23 ?_
   refine tH 24 ?_
   simp only [YS,YT,YU]
   refine wpAnyH_ready (rs:=[25]) (by kernel_rfl) (by simp) ?_
   refine AllReadyH.cons rfl (fun K hK=>?_) AllReadyH.nil
   go_simp
   refine hK.out _ _ ?_ (fun hHeld=>?_)
   ·(try dsimp only);first | (go_keep;done) | ((repeat' apply And.intro) <;> go_simp)
   clear hK K
   try simp only [YS,YT,YU]
   refine wpAnyH_done (by kernel_rfl) ?_ _
   go_wp2
   have HM:=HM4
   exact⟨.inr (.inr (.inr ⟨rfl,HM.out⟩)),by simp [intOf]⟩
  ·have k2:=hM.cell 0 2 (by omega) rfl
   have HM:Hid (FM x w0 Bk (.slice (some ⟨b,off,none⟩) 1 q) (VS c sp A0 B0 C0 (-(c:Int)) (-(c:Int)) (-1) (-1)) wr):=hM
   clear hM
   go_wp2
   go_loopw [41] (fun i wr=>(i = .int .i64 0∧FM x w0 Bk (.slice (some ⟨b,off,none⟩) 1 q) (VS c sp A0 B0 C0 (-(c:Int)) (-(c:Int)) (-1) (-1)) wr)∨(i = .int .i64 1∧FM x w0 Bk (.slice (some ⟨b,off,none⟩) 1 q) (VS c sp A1 B1 C0 (-(c:Int)) (-(c:Int)) (-1) (-1)) wr)∨(i = .int .i64 2∧FM x w0 Bk (.slice (some ⟨b,off,none⟩) 1 q) (VS c sp A2 B2 C0 (-(c:Int)) (-(c:Int)) (-1) (-1)) wr)∨(i = .int .i64 3∧FM x w0 Bk (.slice (some ⟨b,off,none⟩) 1 q) (VS c sp A2 B2 C0 (-(c:Int)) (-(c:Int)) (-1) (-1)) wr)) (fun i _=>3-(intOf i).toNat)
   case atStart=>exact .inl ⟨rfl,HM.out⟩
   case round=>
    clear HM k2
    rcases hrel with ⟨rfl,hM⟩ | ⟨rfl,hM⟩ | ⟨rfl,hM⟩ | ⟨rfl,hM⟩
    ·have k2:=hM.cell 0 2 (by omega) rfl
     have k5:=hM.cell 0 5 (by omega) rfl
     have n6:wr.cell? ⟨Bk 1,6,none⟩=some (.int .i64 0):=hM.cell 1 6 (by omega) rfl
     have m0:=hM.cell 3 0 (by omega) rfl
     have ht:∀ W,W.heap=wr.heap→Calls Tryz.prog 162 #[.pointer (some ⟨Bk 0,0,none⟩),.int .i64 0] W fun e w'=>e = .returned (.bool true)∧w'=W:=fun W hW=>QlC x W Bk b off c q sp A0 B0 C0 (-(c:Int)) (-(c:Int)) (-1) (-1) W ⟨fun i hi=>by have:=hM.mem i hi;unfold Blk at this ⊢;rw [hW];exact this,YD⟩
     have HM:Hid (FM x w0 Bk (.slice (some ⟨b,off,none⟩) 1 q) (VS c sp A0 B0 C0 (-(c:Int)) (-(c:Int)) (-1) (-1)) wr):=hM
     clear hM
     go_wp2
     go_quiet ((go_at_call 162;exact Calls.quiet_of_same (ht _ rfl)))
     have hl:=lead0 x w0 Bk b off c q sp _ _ _ _ HP.out (wr.drewN nq) (HM.out.drewN nq)
     go_wp2_with fail
     refine hl.mono ?_
     rintro e w5 ⟨rfl,hM5⟩
     have HM5:Hid (FM x w0 Bk (.slice (some ⟨b,off,none⟩) 1 q) (VS c sp A1 B1 C0 (-(c:Int)) (-(c:Int)) (-1) (-1)) w5):=hM5
     clear hl hM5 HM
     go_wp2
     have HM:=HM5
     exact⟨.inr (.inl ⟨rfl,HM.out⟩),by simp [intOf]⟩
    ·have k2:=hM.cell 0 2 (by omega) rfl
     have k5:=hM.cell 0 5 (by omega) rfl
     have n6:wr.cell? ⟨Bk 1,16,none⟩=some (.int .i64 1):=hM.cell 1 16 (by omega) rfl
     have m0:=hM.cell 3 1 (by omega) rfl
     have ht:∀ W,W.heap=wr.heap→Calls Tryz.prog 162 #[.pointer (some ⟨Bk 0,0,none⟩),.int .i64 1] W fun e w'=>e = .returned (.bool true)∧w'=W:=fun W hW=>QlB x W Bk b off c q sp A1 B1 C0 (-(c:Int)) (-(c:Int)) (-1) (-1) W ⟨fun i hi=>by have:=hM.mem i hi;unfold Blk at this ⊢;rw [hW];exact this,YD⟩
     have HM:Hid (FM x w0 Bk (.slice (some ⟨b,off,none⟩) 1 q) (VS c sp A1 B1 C0 (-(c:Int)) (-(c:Int)) (-1) (-1)) wr):=hM
     clear hM
     go_wp2
     go_quiet ((go_at_call 162;exact Calls.quiet_of_same (ht _ rfl)))
     have hl:=lead1 x w0 Bk b off c q sp _ _ _ _ HP.out (wr.drewN nq) (HM.out.drewN nq)
     go_wp2_with fail
     refine hl.mono ?_
     rintro e w5 ⟨rfl,hM5⟩
     have HM5:Hid (FM x w0 Bk (.slice (some ⟨b,off,none⟩) 1 q) (VS c sp A2 B2 C0 (-(c:Int)) (-(c:Int)) (-1) (-1)) w5):=hM5
     clear hl hM5 HM
     go_wp2
     have HM:=HM5
     exact⟨.inr (.inr (.inl ⟨rfl,HM.out⟩)),by simp [intOf]⟩
    ·have ht:∀ W,W.heap=wr.heap→Calls Tryz.prog 162 #[.pointer (some ⟨Bk 0,0,none⟩),.int .i64 2] W fun e w'=>e = .returned (.bool false)∧w'=W:=fun W hW=>QgM x W Bk b off c q sp A2 B2 C0 (-(c:Int)) (-(c:Int)) (-1) (-1) W ⟨fun i hi=>by have:=hM.mem i hi;unfold Blk at this ⊢;rw [hW];exact this,YD⟩
     have HM:Hid (FM x w0 Bk (.slice (some ⟨b,off,none⟩) 1 q) (VS c sp A2 B2 C0 (-(c:Int)) (-(c:Int)) (-1) (-1)) wr):=hM
     clear hM
     go_wp2
     go_quiet ((go_at_call 162;exact Calls.quiet_of_same (ht _ rfl)))
     have HM5:Hid (FM x w0 Bk (.slice (some ⟨b,off,none⟩) 1 q) (VS c sp A2 B2 C0 (-(c:Int)) (-(c:Int)) (-1) (-1)) (wr.drewN nq)):=HM.out.drewN nq
     clear HM
     go_wp2
     have HM:=HM5
     exact⟨.inr (.inr (.inr ⟨rfl,HM.out⟩)),by simp [intOf]⟩
    ·have HM:Hid (FM x w0 Bk (.slice (some ⟨b,off,none⟩) 1 q) (VS c sp A2 B2 C0 (-(c:Int)) (-(c:Int)) (-1) (-1)) wr):=hM
     clear hM
     go_wp2
     exact bodyPost_end (results_none rfl _ _ _) rfl ⟨rfl,HM.out⟩
end
section
variable (x:Nat) (w0:World) (Bk:Nat→Nat) (b off c q:Nat) (sp:Value)
theorem FP.le (hP:FP x w0 Bk b off c){ev:Value}{V:FV}{w:World}(hM:FM x w0 Bk ev V w):x≤w.heap.size:=by
 have h1:=hM.lt 0 (by omega)
 have h2:=hP.lo 0 (by omega)
 omega
theorem room0 (hP:FP x w0 Bk b off c)(w:World)(hM:FM x w0 Bk (.slice (some ⟨b,off,none⟩) 1 q) (VS c sp A2 B2 C0 (-(c:Int)) (-(c:Int)) (-1) (-1)) w):Calls Tryz.prog 164 #[.pointer (some ⟨Bk 0,0,none⟩),.int .i64 0] w fun e w'=>e = .returned (.int .i64 0)∧Below w.heap.size w w':=by
 have hc:=hP.small
 have hxw:=FP.le x w0 Bk b off c hP hM
 have k2:=hM.cell 0 2 (by omega) rfl
 have n0:w.cell? ⟨Bk 1,0,none⟩=some (.int .i64 1):=hM.cell 1 0 (by omega) rfl
 have n1:w.cell? ⟨Bk 1,1,none⟩=some (.int .i64 (-1)):=hM.cell 1 1 (by omega) rfl
 have n2:w.cell? ⟨Bk 1,2,none⟩=some (.int .i64 (-1)):=hM.cell 1 2 (by omega) rfl
 have n3:w.cell? ⟨Bk 1,3,none⟩=some (.int .i64 1):=hM.cell 1 3 (by omega) rfl
 have n4:w.cell? ⟨Bk 1,4,none⟩=some (.int .i64 0):=hM.cell 1 4 (by omega) rfl
 have n5:w.cell? ⟨Bk 1,5,none⟩=some (.int .i64 (-1)):=hM.cell 1 5 (by omega) rfl
 have n6:w.cell? ⟨Bk 1,6,none⟩=some (.int .i64 0):=hM.cell 1 6 (by omega) rfl
 have n7:w.cell? ⟨Bk 1,7,none⟩=some (.slice none 0 0):=hM.cell 1 7 (by omega) rfl
 have n8:w.cell? ⟨Bk 1,8,none⟩=some (.slice none 0 0):=hM.cell 1 8 (by omega) rfl
 have n9:w.cell? ⟨Bk 1,9,none⟩=some (.int .i64 0):=hM.cell 1 9 (by omega) rfl
 have hal:Below w.heap.size w (w.alloc (.cells #[.int .i64 1,.int .i64 (-1),.int .i64 (-1),.int .i64 1,.int .i64 0,.int .i64 (-1),.int .i64 0,.slice none 0 0,.slice none 0 0,.int .i64 0] 178)):=YD.alloc YA _
 have hN:=hM.go hxw hal
 have hB:Blk 178 (w.alloc (.cells #[.int .i64 1,.int .i64 (-1),.int .i64 (-1),.int .i64 1,.int .i64 0,.int .i64 (-1),.int .i64 0,.slice none 0 0,.slice none 0 0,.int .i64 0] 178)) w.heap.size [.int .i64 1,.int .i64 (-1),.int .i64 (-1),.int .i64 1,.int .i64 0,.int .i64 (-1),.int .i64 0,.slice none 0 0,.slice none 0 0,.int .i64 0]:=heap_alloc_new w _
 have hit:∀ W,Calls Tryz.prog 175 #[.agg #[.int .i64 1,.int .i64 0]] W fun e w'=>e = .returned (.bool true)∧Grew W w':=fun W=>QaS _ _ W
 have HN:Hid (FM x w0 Bk (.slice (some ⟨b,off,none⟩) 1 q) (VS c sp A2 B2 C0 (-(c:Int)) (-(c:Int)) (-1) (-1)) (w.alloc (.cells #[.int .i64 1,.int .i64 (-1),.int .i64 (-1),.int .i64 1,.int .i64 0,.int .i64 (-1),.int .i64 0,.slice none 0 0,.slice none 0 0,.int .i64 0] 178))):=hN
 have HB:Hid (Blk 178 (w.alloc (.cells #[.int .i64 1,.int .i64 (-1),.int .i64 (-1),.int .i64 1,.int .i64 0,.int .i64 (-1),.int .i64 0,.slice none 0 0,.slice none 0 0,.int .i64 0] 178)) w.heap.size [.int .i64 1,.int .i64 (-1),.int .i64 (-1),.int .i64 1,.int .i64 0,.int .i64 (-1),.int .i64 0,.slice none 0 0,.slice none 0 0,.int .i64 0]):=hB
 have HAL:Hid _:=hal
 have hs1:(w.alloc (.cells #[.int .i64 1,.int .i64 (-1),.int .i64 (-1),.int .i64 1,.int .i64 0,.int .i64 (-1),.int .i64 0,.slice none 0 0,.slice none 0 0,.int .i64 0] 178)).heap.size=w.heap.size+1:=by simp
 have HS1:Hid _:=hs1
 clear hM hN hB hal hP hs1
 go_enter Tryz.func164,Tryz.ntmps164
 go_wp2_with fail
 refine (hit _).mono ?_
 rintro e w3 ⟨rfl,hg3⟩
 have hb3:=hg3.below
 have hB3:=HB.out.go hb3
 have hM3:=HN.out.go (by rw [HS1.out];omega) hb3
 have l0:=hB3.cell (j:=3) rfl
 have l1:=hB3.cell (j:=4) rfl
 have hsl:=QoB x w0 Bk b off c q sp A2 B2 C0 (-1) (-1) hc w3 hM3 (by have:=hb3.size;rw [HS1.out] at this;omega)
 have HF:Hid (Below w.heap.size w w3):=HAL.out.trans (hb3.mono HAL.out.size)
 clear hg3 hb3 hB3 hM3 hit
 go_wp2_with fail
 refine hsl.mono ?_
 rintro e w4 ⟨rfl,hb4⟩
 clear hsl
 go_wp2
 go_ret
 exact⟨rfl,HF.out.trans (hb4.mono HF.out.size)⟩
theorem room1 (hP:FP x w0 Bk b off c)(w:World)(hM:FM x w0 Bk (.slice (some ⟨b,off,none⟩) 1 q) (VS c sp A2 B2 C0 (-(c:Int)) (-(c:Int)) (-1) (-1)) w):Calls Tryz.prog 164 #[.pointer (some ⟨Bk 0,0,none⟩),.int .i64 1] w fun e w'=>e = .returned (.int .i64 0)∧Below w.heap.size w w':=by
 have hc:=hP.small
 have hxw:=FP.le x w0 Bk b off c hP hM
 have k2:=hM.cell 0 2 (by omega) rfl
 have n0:w.cell? ⟨Bk 1,10,none⟩=some (.int .i64 1):=hM.cell 1 10 (by omega) rfl
 have n1:w.cell? ⟨Bk 1,11,none⟩=some (.int .i64 (-1)):=hM.cell 1 11 (by omega) rfl
 have n2:w.cell? ⟨Bk 1,12,none⟩=some (.int .i64 (-1)):=hM.cell 1 12 (by omega) rfl
 have n3:w.cell? ⟨Bk 1,13,none⟩=some (.int .i64 0):=hM.cell 1 13 (by omega) rfl
 have n4:w.cell? ⟨Bk 1,14,none⟩=some (.int .i64 1):=hM.cell 1 14 (by omega) rfl
 have n5:w.cell? ⟨Bk 1,15,none⟩=some (.int .i64 (-1)):=hM.cell 1 15 (by omega) rfl
 have n6:w.cell? ⟨Bk 1,16,none⟩=some (.int .i64 1):=hM.cell 1 16 (by omega) rfl
 have n7:w.cell? ⟨Bk 1,17,none⟩=some (.slice none 0 0):=hM.cell 1 17 (by omega) rfl
 have n8:w.cell? ⟨Bk 1,18,none⟩=some (.slice none 0 0):=hM.cell 1 18 (by omega) rfl
 have n9:w.cell? ⟨Bk 1,19,none⟩=some (.int .i64 0):=hM.cell 1 19 (by omega) rfl
 have hal:Below w.heap.size w (w.alloc (.cells #[.int .i64 1,.int .i64 (-1),.int .i64 (-1),.int .i64 0,.int .i64 1,.int .i64 (-1),.int .i64 1,.slice none 0 0,.slice none 0 0,.int .i64 0] 178)):=YD.alloc YA _
 have hN:=hM.go hxw hal
 have hB:Blk 178 (w.alloc (.cells #[.int .i64 1,.int .i64 (-1),.int .i64 (-1),.int .i64 0,.int .i64 1,.int .i64 (-1),.int .i64 1,.slice none 0 0,.slice none 0 0,.int .i64 0] 178)) w.heap.size [.int .i64 1,.int .i64 (-1),.int .i64 (-1),.int .i64 0,.int .i64 1,.int .i64 (-1),.int .i64 1,.slice none 0 0,.slice none 0 0,.int .i64 0]:=heap_alloc_new w _
 have hit:∀ W,Calls Tryz.prog 175 #[.agg #[.int .i64 0,.int .i64 1]] W fun e w'=>e = .returned (.bool true)∧Grew W w':=fun W=>QaS _ _ W
 have HN:Hid (FM x w0 Bk (.slice (some ⟨b,off,none⟩) 1 q) (VS c sp A2 B2 C0 (-(c:Int)) (-(c:Int)) (-1) (-1)) (w.alloc (.cells #[.int .i64 1,.int .i64 (-1),.int .i64 (-1),.int .i64 0,.int .i64 1,.int .i64 (-1),.int .i64 1,.slice none 0 0,.slice none 0 0,.int .i64 0] 178))):=hN
 have HB:Hid (Blk 178 (w.alloc (.cells #[.int .i64 1,.int .i64 (-1),.int .i64 (-1),.int .i64 0,.int .i64 1,.int .i64 (-1),.int .i64 1,.slice none 0 0,.slice none 0 0,.int .i64 0] 178)) w.heap.size [.int .i64 1,.int .i64 (-1),.int .i64 (-1),.int .i64 0,.int .i64 1,.int .i64 (-1),.int .i64 1,.slice none 0 0,.slice none 0 0,.int .i64 0]):=hB
 have HAL:Hid _:=hal
 have hs1:(w.alloc (.cells #[.int .i64 1,.int .i64 (-1),.int .i64 (-1),.int .i64 0,.int .i64 1,.int .i64 (-1),.int .i64 1,.slice none 0 0,.slice none 0 0,.int .i64 0] 178)).heap.size=w.heap.size+1:=by simp
 have HS1:Hid _:=hs1
 clear hM hN hB hal hP hs1
 go_enter Tryz.func164,Tryz.ntmps164
 go_wp2_with fail
 refine (hit _).mono ?_
 rintro e w3 ⟨rfl,hg3⟩
 have hb3:=hg3.below
 have hB3:=HB.out.go hb3
 have hM3:=HN.out.go (by rw [HS1.out];omega) hb3
 have l0:=hB3.cell (j:=3) rfl
 have l1:=hB3.cell (j:=4) rfl
 have hsl:=QoC x w0 Bk b off c q sp A2 B2 C0 (-1) (-1) hc w3 hM3 (by have:=hb3.size;rw [HS1.out] at this;omega)
 have HF:Hid (Below w.heap.size w w3):=HAL.out.trans (hb3.mono HAL.out.size)
 clear hg3 hb3 hB3 hM3 hit
 go_wp2_with fail
 refine hsl.mono ?_
 rintro e w4 ⟨rfl,hb4⟩
 clear hsl
 go_wp2
 go_ret
 exact⟨rfl,HF.out.trans (hb4.mono HF.out.size)⟩
end
section
variable (x:Nat) (w0:World) (Bk:Nat→Nat) (b off c q:Nat) (sp:Value)
theorem Qlj (hP:FP x w0 Bk b off c)(w:World)(hM:FM x w0 Bk (.slice (some ⟨b,off,none⟩) 1 q) (VS c sp A2 B2 C0 (-(c:Int)) (-(c:Int)) (-1) (-1)) w):Calls Tryz.prog 143 #[.pointer (some ⟨Bk 0,0,none⟩)] w fun e w'=>e = .returned (.tuple #[.int .i64 0,.int .i64 0])∧FM x w0 Bk (.slice (some ⟨b,off,none⟩) 1 q) (VS c sp A2 B2 C0 (-(c:Int)) (-(c:Int)) (-1) (-1)) w':=by
 have HP:Hid (FP x w0 Bk b off c):=hP
 have k2:=hM.cell 0 2 (by omega) rfl
 have HM:Hid (FM x w0 Bk (.slice (some ⟨b,off,none⟩) 1 q) (VS c sp A2 B2 C0 (-(c:Int)) (-(c:Int)) (-1) (-1)) w):=hM
 clear hM hP
 go_enter Tryz.func143,Tryz.ntmps143
 go_wp2
 go_loopw [2,3,11] (fun a f i wr=>((i = .int .i64 0∧a = .int .i64 (-1)∧f = .int .i64 9223372036854775807)∨((i = .int .i64 1∨i = .int .i64 2∨i = .int .i64 3)∧a = .int .i64 0∧f = .int .i64 0))∧FM x w0 Bk (.slice (some ⟨b,off,none⟩) 1 q) (VS c sp A2 B2 C0 (-(c:Int)) (-(c:Int)) (-1) (-1)) wr) (fun _ _ i _=>3-(intOf i).toNat)
 case atStart=>exact⟨.inl ⟨rfl,rfl,rfl⟩,HM.out⟩
 case round=>
  clear HM k2
  obtain⟨hor,hM⟩:=hrel
  have hxw:=FP.le x w0 Bk b off c HP.out hM
  rcases hor with ⟨rfl,rfl,rfl⟩ | ⟨rfl | rfl | rfl,rfl,rfl⟩
  ·have ht:Calls Tryz.prog 162 #[.pointer (some ⟨Bk 0,0,none⟩),.int .i64 0] wr fun e w'=>e = .returned (.bool true)∧w'=wr:=QlC x w0 Bk b off c q sp A2 B2 C0 (-(c:Int)) (-(c:Int)) (-1) (-1) wr hM
   have hr:=room0 x w0 Bk b off c q sp HP.out wr hM
   have HM:Hid (∀ w',Below wr.heap.size wr w'→FM x w0 Bk (.slice (some ⟨b,off,none⟩) 1 q) (VS c sp A2 B2 C0 (-(c:Int)) (-(c:Int)) (-1) (-1)) w'):=fun w' h=>hM.go hxw h
   clear hM
   go_wp2_with fail
   refine ht.mono ?_
   rintro e w2 ⟨rfl,rfl⟩
   go_wp2_with fail
   refine hr.mono ?_
   rintro e w3 ⟨rfl,hb3⟩
   have HM3:Hid (FM x w0 Bk (.slice (some ⟨b,off,none⟩) 1 q) (VS c sp A2 B2 C0 (-(c:Int)) (-(c:Int)) (-1) (-1)) w3):=HM.out w3 hb3
   clear ht hr hb3 HM
   go_wp2
   exact⟨⟨.inr ⟨.inl rfl,rfl,rfl⟩,HM3.out⟩,by simp [intOf]⟩
  ·have ht:Calls Tryz.prog 162 #[.pointer (some ⟨Bk 0,0,none⟩),.int .i64 1] wr fun e w'=>e = .returned (.bool true)∧w'=wr:=QlB x w0 Bk b off c q sp A2 B2 C0 (-(c:Int)) (-(c:Int)) (-1) (-1) wr hM
   have hr:=room1 x w0 Bk b off c q sp HP.out wr hM
   have HM:Hid (∀ w',Below wr.heap.size wr w'→FM x w0 Bk (.slice (some ⟨b,off,none⟩) 1 q) (VS c sp A2 B2 C0 (-(c:Int)) (-(c:Int)) (-1) (-1)) w'):=fun w' h=>hM.go hxw h
   clear hM
   go_wp2_with fail
   refine ht.mono ?_
   rintro e w2 ⟨rfl,rfl⟩
   go_wp2_with fail
   refine hr.mono ?_
   rintro e w3 ⟨rfl,hb3⟩
   have HM3:Hid (FM x w0 Bk (.slice (some ⟨b,off,none⟩) 1 q) (VS c sp A2 B2 C0 (-(c:Int)) (-(c:Int)) (-1) (-1)) w3):=HM.out w3 hb3
   clear ht hr hb3 HM
   go_wp2
   exact⟨⟨.inr ⟨.inr (.inl rfl),rfl,rfl⟩,HM3.out⟩,by simp [intOf]⟩
  ·have ht:Calls Tryz.prog 162 #[.pointer (some ⟨Bk 0,0,none⟩),.int .i64 2] wr fun e w'=>e = .returned (.bool false)∧w'=wr:=QgM x w0 Bk b off c q sp A2 B2 C0 (-(c:Int)) (-(c:Int)) (-1) (-1) wr hM
   have HM:Hid (FM x w0 Bk (.slice (some ⟨b,off,none⟩) 1 q) (VS c sp A2 B2 C0 (-(c:Int)) (-(c:Int)) (-1) (-1)) wr):=hM
   clear hM
   go_wp2_with fail
   refine ht.mono ?_
   rintro e w2 ⟨rfl,rfl⟩
   go_wp2
   exact⟨⟨.inr ⟨.inr (.inr rfl),rfl,rfl⟩,HM.out⟩,by simp [intOf]⟩
  ·have HM:Hid (FM x w0 Bk (.slice (some ⟨b,off,none⟩) 1 q) (VS c sp A2 B2 C0 (-(c:Int)) (-(c:Int)) (-1) (-1)) wr):=hM
   clear hM
   go_wp2
   go_ret2
   exact⟨rfl,HM.out⟩
theorem Qln (hP:FP x w0 Bk b off c)(w:World)(hM:FM x w0 Bk (.slice (some ⟨b,off,none⟩) 1 q) (VS c sp A2 B2 C0 (-(c:Int)) (-(c:Int)) (-1) (-1)) w):Calls Tryz.prog 144 #[.pointer (some ⟨Bk 0,0,none⟩),.int .i64 0] w fun e w'=>e = .returned (.tuple #[])∧FM x w0 Bk (.slice (some ⟨b,off,none⟩) 1 q) (VS c sp A2 B2 C0 (-(c:Int)) (-(c:Int)) (-1) (-1)) w':=by
 have hmix:=mixed
 have hc:=hP.small
 have HP:Hid (FP x w0 Bk b off c):=hP
 have k0:=hM.cell 0 0 (by omega) rfl
 have HM:Hid (FM x w0 Bk (.slice (some ⟨b,off,none⟩) 1 q) (VS c sp A2 B2 C0 (-(c:Int)) (-(c:Int)) (-1) (-1)) w):=hM
 have hcl:(0:Int)≤(c:Int):=by omega
 have hcu:(c:Int)<1099511627776:=by omega
 clear hM hP
 go_enter Tryz.func144,Tryz.ntmps144
 go_wp2
 go_loopw [11] (fun i wr=>(i = .int .i64 0∨i = .int .i64 1∨i = .int .i64 2)∧FM x w0 Bk (.slice (some ⟨b,off,none⟩) 1 q) (VS c sp A2 B2 C0 (-(c:Int)) (-(c:Int)) (-1) (-1)) wr) (fun i _=>2-(intOf i).toNat)
 case atStart=>exact⟨.inl rfl,HM.out⟩
 case round=>
  clear HM k0
  obtain⟨hor,hM⟩:=hrel
  rcases hor with rfl | rfl | rfl
  ·have k2:=hM.cell 0 2 (by omega) rfl
   have k4:=hM.cell 0 4 (by omega) rfl
   have k6:=hM.cell 0 6 (by omega) rfl
   have t0:=hM.cell 4 0 (by omega) rfl
   have n0:wr.cell? ⟨Bk 1,0,none⟩=some (.int .i64 1):=hM.cell 1 0 (by omega) rfl
   have HM:Hid (FM x w0 Bk (.slice (some ⟨b,off,none⟩) 1 q) (VS c sp A2 B2 C0 (-(c:Int)) (-(c:Int)) (-1) (-1)) wr):=hM
   clear hM
   go_wp2
   go_quiet (fail)
   have hM2:=HM.out.drewN nq
   have k4:=hM2.cell 0 4 (by omega) rfl
   have y0:(wr.drewN nq).cell? ⟨Bk 2,0,none⟩=some (.int .i64 (-(c:Int))):=hM2.cell 2 0 (by omega) rfl
   have f0:=hM2.frozen 2 0 (by omega)
   have HM3:Hid (FM x w0 Bk (.slice (some ⟨b,off,none⟩) 1 q) (VS c sp A2 B2 C0 (-(c:Int)) (-(c:Int)) (-1) (-1)) ((wr.drewN nq).setCell ⟨Bk 2,0,none⟩ (.int .i64 (-(c:Int))))):=hM2.setY HP.out 0 _
   obtain⟨w5,hw5⟩:∃ W,wr.drewN nq=W:=⟨_,rfl⟩
   rw [hw5] at k4 y0 f0 HM3 ⊢
   clear hw5 hM2 HM n0 t0 k2 k6
   go_wp2
   exact⟨⟨.inr (.inl rfl),HM3.out⟩,by simp [intOf]⟩
  ·have k2:=hM.cell 0 2 (by omega) rfl
   have k4:=hM.cell 0 4 (by omega) rfl
   have k6:=hM.cell 0 6 (by omega) rfl
   have t0:=hM.cell 4 1 (by omega) rfl
   have n0:wr.cell? ⟨Bk 1,10,none⟩=some (.int .i64 1):=hM.cell 1 10 (by omega) rfl
   have HM:Hid (FM x w0 Bk (.slice (some ⟨b,off,none⟩) 1 q) (VS c sp A2 B2 C0 (-(c:Int)) (-(c:Int)) (-1) (-1)) wr):=hM
   clear hM
   go_wp2
   go_quiet (fail)
   have hM2:=HM.out.drewN nq
   have k4:=hM2.cell 0 4 (by omega) rfl
   have y0:(wr.drewN nq).cell? ⟨Bk 2,1,none⟩=some (.int .i64 (-(c:Int))):=hM2.cell 2 1 (by omega) rfl
   have f0:=hM2.frozen 2 1 (by omega)
   have HM3:Hid (FM x w0 Bk (.slice (some ⟨b,off,none⟩) 1 q) (VS c sp A2 B2 C0 (-(c:Int)) (-(c:Int)) (-1) (-1)) ((wr.drewN nq).setCell ⟨Bk 2,1,none⟩ (.int .i64 (-(c:Int))))):=hM2.setY HP.out 1 _
   obtain⟨w5,hw5⟩:∃ W,wr.drewN nq=W:=⟨_,rfl⟩
   rw [hw5] at k4 y0 f0 HM3 ⊢
   clear hw5 hM2 HM n0 t0 k2 k6
   go_wp2
   exact⟨⟨.inr (.inr rfl),HM3.out⟩,by simp [intOf]⟩
  ·have k0:=hM.cell 0 0 (by omega) rfl
   have k2:=hM.cell 0 2 (by omega) rfl
   have HM:Hid (FM x w0 Bk (.slice (some ⟨b,off,none⟩) 1 q) (VS c sp A2 B2 C0 (-(c:Int)) (-(c:Int)) (-1) (-1)) wr):=hM
   clear hM
   go_wp2
   go_loopw [5] (fun i wr=>(i = .int .i64 2∨i = .int .i64 3)∧FM x w0 Bk (.slice (some ⟨b,off,none⟩) 1 q) (VS c sp A2 B2 C0 (-(c:Int)) (-(c:Int)) (-1) (-1)) wr) (fun i _=>3-(intOf i).toNat)
   case atStart=>exact⟨.inl rfl,HM.out⟩
   case round=>
    clear HM k0 k2
    obtain⟨hor,hM⟩:=hrel
    rcases hor with rfl | rfl
    ·have ht:Calls Tryz.prog 162 #[.pointer (some ⟨Bk 0,0,none⟩),.int .i64 2] wr fun e w'=>e = .returned (.bool false)∧w'=wr:=QgM x w0 Bk b off c q sp A2 B2 C0 (-(c:Int)) (-(c:Int)) (-1) (-1) wr hM
     have k2:=hM.cell 0 2 (by omega) rfl
     have HM:Hid (FM x w0 Bk (.slice (some ⟨b,off,none⟩) 1 q) (VS c sp A2 B2 C0 (-(c:Int)) (-(c:Int)) (-1) (-1)) wr):=hM
     clear hM
     go_wp2_with fail
     refine ht.mono ?_
     rintro e w2 ⟨rfl,rfl⟩
     go_wp2
     exact⟨⟨.inr rfl,HM.out⟩,by simp [intOf]⟩
    ·have k2:=hM.cell 0 2 (by omega) rfl
     have HM:Hid (FM x w0 Bk (.slice (some ⟨b,off,none⟩) 1 q) (VS c sp A2 B2 C0 (-(c:Int)) (-(c:Int)) (-1) (-1)) wr):=hM
     clear hM
     go_wp2
     exact bodyPost_end (results_none rfl _ _ _) rfl ⟨rfl,HM.out⟩
end
end Go.Proofs.YtalflecmadacaaaGreat
