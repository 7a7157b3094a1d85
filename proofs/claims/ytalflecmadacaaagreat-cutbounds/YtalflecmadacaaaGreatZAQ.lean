import Derived.Test.YtalflecmadacaaaGreatZAP
import Derived.Deep.OwnRows
import Derived.Test.YtalflecmadacaaaGreatZAE
import Derived.Test.YtalflecmadacaaaGreatZAH
import Derived.Test.YtalflecmadacaaaGreatZAA
import Derived.Test.YtalflecmadacaaaGreatZAI
import Derived.Deep.QuietTactic
import Derived.BigQuiet
import Derived.Test.YtalflecmadacaaaGreatZAG
set_option maxRecDepth 100000
set_option maxHeartbeats 8000000
namespace Go.Proofs.YtalflecmadacaaaGreat
open Go Go.Proofs Go.RowKit
theorem Qe9 (N:Nat)(l:List Ed)(hR:RightG (N:Int) l)(sv:Value)(w:World)(hl:Edges w.heap.size w sv l):
  Calls Tryz.prog 73 #[.agg #[.int .i64 (N:Int),sv]] w fun r w'=>∃ (a:Lay) (lv pv ov:Value),r = .returned (.pointer (some ⟨a.wb,0,none⟩))∧a.N=N∧a.M=l.length∧LayOK a∧WB a lv pv ov (walkW N l) w'∧LK a lv (Qay N l) w'∧(∀ k,a.five k→w.heap.size<k∧k<w'.heap.size)∧a.h0≤w'.heap.size∧Below w.heap.size w w':=by
 have hmix:=mixed
 obtain⟨p,c,rfl⟩:=hl.len
 have hn1:=hR.n1
 have hm1:=hR.m1
 have hb1:Below w.heap.size w (w.alloc (.cells #[.int .i64 (N:Int),.slice p l.length c] 24)):=YD.alloc YA _
 have q0:(w.alloc (.cells #[.int .i64 (N:Int),.slice p l.length c] 24)).cell? ⟨w.heap.size,0,none⟩=some (.int .i64 (N:Int)):=Qan rfl rfl
 have q1:(w.alloc (.cells #[.int .i64 (N:Int),.slice p l.length c] 24)).cell? ⟨w.heap.size,1,none⟩=some (.slice p l.length c):=Qan rfl rfl
 have hsz1:(w.alloc (.cells #[.int .i64 (N:Int),.slice p l.length c] 24)).heap.size=w.heap.size+1:=by simp
 have HL:Hid (Edges w.heap.size w (.slice p l.length c) l):=hl
 have HR:Hid _:=hR
 clear hl hR
 go_enter Tryz.func73,Tryz.ntmps73
 go_wp2
 generalize hw1:(w.alloc (.cells #[.int .i64 (N:Int),.slice p l.length c] 24))=w1 at *
 generalize hxb:w.heap.size=xb at *
 refine wp_region_held_drew (S:=(fun w':World=>w'.cell? ⟨xb,0,none⟩=some (.int .i64 (N:Int))∧w'.cell? ⟨xb,1,none⟩=some (.slice p l.length c))) (by kernel_rfl) ?_ (fun hHeld=>?_)
 ·(try dsimp only);go_keep
 refine tH 0 ?_
 try simp only [YS]
 refine tH 2 ?_
 refine tH 3 ?_
 refine tH 5 ?_
 refine tH 6 ?_
 refine tH 8 ?_
 refine tH 9 ?_
 refine tH 11 ?_
 refine tH 12 ?_
 refine tH 13 ?_
 simp only [YS,YT,YU]
 refine Qcs [1,4,7,10,14] (by decide) #[true,true,true,true,true,true,true,true,true,true,true,true,true,true,true,false,false,false] (fun d a W=>∃ X B,a={ tmps:=#[.agg #[.int .i64 (N:Int),.slice p l.length c],.pointer (some ⟨xb,0,none⟩),.pointer none,undef,undef,.agg #[.int .i64 (N:Int),.slice p l.length c],X 1,.pointer (some ⟨xb,0,none⟩),.int .i64 (N:Int),X 4,.pointer (some ⟨xb,0,none⟩),.int .i64 (N:Int),X 7,.pointer (some ⟨xb,0,none⟩),.int .i64 (N:Int),X 10,.pointer (some ⟨xb,1,none⟩),.slice p l.length c,.int .i64 (l.length:Int),X 14,undef,undef,undef,undef,undef,undef,undef,undef,undef,undef,undef,undef,undef,undef,undef,undef,undef,undef,undef,undef,undef,undef,undef],defers:=[] }∧(∀ i∈d,i≠18)∧JW N l (xb+1) d X B W∧Below (xb+1) w1 W) 3 ?_ ?_ 5 _ [] _ _ rfl (by kernel_rfl) ?_
 ·intro i hi d a W hid hJ
  obtain⟨X,B,rfl,hd18,hJ,hb⟩:=hJ
  have hi':i=1∨i=4∨i=7∨i=10∨i=14:=by simpa using hi
  have hWs:xb+1≤W.heap.size:=by have:=hb.size;omega
  have hbw:Below xb w W:=hb1.trans (hb.mono (by omega))
  have keep:∀ W',Below W.heap.size W W'→W'.cell? ⟨xb,0,none⟩=some (.int .i64 (N:Int))∧W'.cell? ⟨xb,1,none⟩=some (.slice p l.length c):=fun W' h=>by
   have h':=hb.trans (h.mono hWs)
   exact⟨(h'.cell (p:=⟨xb,0,none⟩) (by simp)).trans q0,(h'.cell (p:=⟨xb,1,none⟩) (by simp)).trans q1⟩
  clear hi hHeld
  rcases hi' with rfl | rfl | rfl | rfl | rfl
  ·refine Qat rfl (fun K hK=>?_)
   have HJ:Hid _:=hJ
   have HKp:Hid _:=keep
   clear hJ keep
   go_simp
   refine (Qj2 N l HR.out _ W ((Edges.below HL.out hbw).mono (by omega))).mono ?_
   rintro e W2 ⟨lb,sb,rfl,g1,g2,g3,g4,g5⟩
   refine hK.out _ _ (HKp.out _ g5) ⟨_,_,?_,fun j hj=>?_,HJ.out.addLnk hid (fun h=>hd18 18 h rfl) hWs g1 g2 g3 g4 g5,hb.trans (g5.mono hWs)⟩
   ·rfl
   ·rcases List.mem_cons.1 hj with rfl | hj
    ·decide
    ·exact hd18 j hj
  ·refine Qat rfl (fun K hK=>?_)
   have hmk:=run_make_row' (P:=Tryz.prog) 27 3 (.int .i64 0) 8 Tryz.underlying27 infoI rfl .i64 .i64 (N) (by omega) (by omega)
   have HJ:Hid _:=hJ
   have HKp:Hid _:=keep
   clear hJ keep
   go_simp
   have hbx:Below W.heap.size W (W.alloc (.cells (madeCells #[.int .i64 0] (N)) 3)):=YD.alloc YA _
   have hbk:Blk 3 (W.alloc (.cells (madeCells #[.int .i64 0] (N)) 3)) W.heap.size (rowZ (lenR N l.length 4)):=by
    have h0:(W.alloc (.cells (madeCells #[.int .i64 0] (N)) 3)).heap[W.heap.size]? = some (.cells (madeCells #[.int .i64 0] (N)) 3 (0,0)):=heap_alloc_new W _
    show _=some (Obj.cells (rowZ (N)).toArray 3 (0,0))
    rw [← QcN]
    simpa using h0
   refine hK.out _ _ (HKp.out _ hbx) ⟨_,_,?_,fun j hj=>?_,HJ.out.addRow hid (by decide) (by decide) hWs hbk hbx,hb.trans (hbx.mono hWs)⟩
   ·rfl
   ·rcases List.mem_cons.1 hj with rfl | hj
    ·decide
    ·exact hd18 j hj
  ·refine Qat rfl (fun K hK=>?_)
   have hmk:=run_make_row' (P:=Tryz.prog) 27 3 (.int .i64 0) 8 Tryz.underlying27 infoI rfl .i64 .i64 (N) (by omega) (by omega)
   have HJ:Hid _:=hJ
   have HKp:Hid _:=keep
   clear hJ keep
   go_simp
   have hbx:Below W.heap.size W (W.alloc (.cells (madeCells #[.int .i64 0] (N)) 3)):=YD.alloc YA _
   have hbk:Blk 3 (W.alloc (.cells (madeCells #[.int .i64 0] (N)) 3)) W.heap.size (rowZ (lenR N l.length 7)):=by
    have h0:(W.alloc (.cells (madeCells #[.int .i64 0] (N)) 3)).heap[W.heap.size]? = some (.cells (madeCells #[.int .i64 0] (N)) 3 (0,0)):=heap_alloc_new W _
    show _=some (Obj.cells (rowZ (N)).toArray 3 (0,0))
    rw [← QcN]
    simpa using h0
   refine hK.out _ _ (HKp.out _ hbx) ⟨_,_,?_,fun j hj=>?_,HJ.out.addRow hid (by decide) (by decide) hWs hbk hbx,hb.trans (hbx.mono hWs)⟩
   ·rfl
   ·rcases List.mem_cons.1 hj with rfl | hj
    ·decide
    ·exact hd18 j hj
  ·refine Qat rfl (fun K hK=>?_)
   have hmk:=run_make_row' (P:=Tryz.prog) 27 3 (.int .i64 0) 8 Tryz.underlying27 infoI rfl .i64 .i64 (N) (by omega) (by omega)
   have HJ:Hid _:=hJ
   have HKp:Hid _:=keep
   clear hJ keep
   go_simp
   have hbx:Below W.heap.size W (W.alloc (.cells (madeCells #[.int .i64 0] (N)) 3)):=YD.alloc YA _
   have hbk:Blk 3 (W.alloc (.cells (madeCells #[.int .i64 0] (N)) 3)) W.heap.size (rowZ (lenR N l.length 10)):=by
    have h0:(W.alloc (.cells (madeCells #[.int .i64 0] (N)) 3)).heap[W.heap.size]? = some (.cells (madeCells #[.int .i64 0] (N)) 3 (0,0)):=heap_alloc_new W _
    show _=some (Obj.cells (rowZ (N)).toArray 3 (0,0))
    rw [← QcN]
    simpa using h0
   refine hK.out _ _ (HKp.out _ hbx) ⟨_,_,?_,fun j hj=>?_,HJ.out.addRow hid (by decide) (by decide) hWs hbk hbx,hb.trans (hbx.mono hWs)⟩
   ·rfl
   ·rcases List.mem_cons.1 hj with rfl | hj
    ·decide
    ·exact hd18 j hj
  ·refine Qat rfl (fun K hK=>?_)
   have hmk:=run_make_row' (P:=Tryz.prog) 27 3 (.int .i64 0) 8 Tryz.underlying27 infoI rfl .i64 .i64 (l.length) (by omega) (by omega)
   have HJ:Hid _:=hJ
   have HKp:Hid _:=keep
   clear hJ keep
   go_simp
   have hbx:Below W.heap.size W (W.alloc (.cells (madeCells #[.int .i64 0] (l.length)) 3)):=YD.alloc YA _
   have hbk:Blk 3 (W.alloc (.cells (madeCells #[.int .i64 0] (l.length)) 3)) W.heap.size (rowZ (lenR N l.length 14)):=by
    have h0:(W.alloc (.cells (madeCells #[.int .i64 0] (l.length)) 3)).heap[W.heap.size]? = some (.cells (madeCells #[.int .i64 0] (l.length)) 3 (0,0)):=heap_alloc_new W _
    show _=some (Obj.cells (rowZ (l.length)).toArray 3 (0,0))
    rw [← QcN]
    simpa using h0
   refine hK.out _ _ (HKp.out _ hbx) ⟨_,_,?_,fun j hj=>?_,HJ.out.addRow hid (by decide) (by decide) hWs hbk hbx,hb.trans (hbx.mono hWs)⟩
   ·rfl
   ·rcases List.mem_cons.1 hj with rfl | hj
    ·decide
    ·exact hd18 j hj
 ·intro d a W hall hJ
  obtain⟨X,B,rfl,hd18,hJ,hb⟩:=hJ
  have i1:1∈d:=hall 1 (by decide)
  have i4:4∈d:=hall 4 (by decide)
  have i7:7∈d:=hall 7 (by decide)
  have i10:10∈d:=hall 10 (by decide)
  have i14:14∈d:=hall 14 (by decide)
  obtain⟨e1,hI⟩:=hJ.lnk i1
  obtain⟨e4,r4⟩:=hJ.row 4 i4 (by decide)
  obtain⟨e7,r7⟩:=hJ.row 7 i7 (by decide)
  obtain⟨e10,r10⟩:=hJ.row 10 i10 (by decide)
  obtain⟨e14,r14⟩:=hJ.row 14 i14 (by decide)
  have eN:∀ k,k≠14→lenR N l.length k=N:=fun k hk=>by unfold lenR;rw [if_neg hk]
  have eM:lenR N l.length 14=l.length:=rfl
  rw [eN 4 (by decide)] at e4 r4
  rw [eN 7 (by decide)] at e7 r7
  rw [eN 10 (by decide)] at e10 r10
  rw [eM] at e14 r14
  rw [e1,e4,e7,e10,e14]
  have g1:=hJ.ge 1 i1
  have g4:=hJ.ge 4 i4
  have g7:=hJ.ge 7 i7
  have g10:=hJ.ge 10 i10
  have g14:=hJ.ge 14 i14
  obtain⟨g18,g18',n118⟩:=hJ.sb i1
  have hLay:LayOK ⟨N,l.length,W.heap.size,B 4,B 7,B 10,B 14,W.heap.size+1⟩:=⟨by show W.heap.size<W.heap.size+1;omega,by show B 4<W.heap.size+1;omega,by show B 7<W.heap.size+1;omega,by show B 10<W.heap.size+1;omega,by show B 14<W.heap.size+1;omega,by show W.heap.size≠B 4;omega,by show W.heap.size≠B 7;omega,by show W.heap.size≠B 10;omega,by show W.heap.size≠B 14;omega,hJ.ne 4 7 i4 i7 (by decide),hJ.ne 4 10 i4 i10 (by decide),hJ.ne 4 14 i4 i14 (by decide),hJ.ne 7 10 i7 i10 (by decide),hJ.ne 7 14 i7 i14 (by decide),hJ.ne 10 14 i10 i14 (by decide)⟩
  have hF1:¬ (Lay.five ⟨N,l.length,W.heap.size,B 4,B 7,B 10,B 14,W.heap.size+1⟩ (B 1)):=by
   have n4:=hJ.ne 1 4 i1 i4 (by decide)
   have n7:=hJ.ne 1 7 i1 i7 (by decide)
   have n10:=hJ.ne 1 10 i1 i10 (by decide)
   have n14:=hJ.ne 1 14 i1 i14 (by decide)
   unfold Lay.five
   show ¬ (B 1=W.heap.size∨B 1=B 4∨B 1=B 7∨B 1=B 10∨B 1=B 14)
   omega
  have hF18:¬ (Lay.five ⟨N,l.length,W.heap.size,B 4,B 7,B 10,B 14,W.heap.size+1⟩ (B 18)):=by
   have n4:=hJ.ns 4 i4 (by decide) i1
   have n7:=hJ.ns 7 i7 (by decide) i1
   have n10:=hJ.ns 10 i10 (by decide) i1
   have n14:=hJ.ns 14 i14 (by decide) i1
   unfold Lay.five
   show ¬ (B 18=W.heap.size∨B 18=B 4∨B 18=B 7∨B 18=B 10∨B 18=B 14)
   omega
  have hcell:W.cell? ⟨xb,0,none⟩=some (.int .i64 (N:Int))∧W.cell? ⟨xb,1,none⟩=some (.slice p l.length c):=⟨(hb.cell (p:=⟨xb,0,none⟩) (by simp)).trans q0,(hb.cell (p:=⟨xb,1,none⟩) (by simp)).trans q1⟩
  obtain⟨k0,k1⟩:=hcell
  have hxW:xb<W.heap.size:=by omega
  have HJ:Hid _:=hJ
  clear hJ hHeld hd18 e1 e4 e7 e10 e14 eN eM hall i1 i4 i7 i10 i14
  have Hg:Hid (xb<B 1∧xb<B 4∧xb<B 7∧xb<B 10∧xb<B 14∧B 1<W.heap.size∧B 4<W.heap.size∧B 7<W.heap.size∧B 10<W.heap.size∧B 14<W.heap.size∧B 18<W.heap.size):=⟨by omega,by omega,by omega,by omega,by omega,by omega,by omega,by omega,by omega,by omega,by omega⟩
  clear g1 g4 g7 g10 g14 g18 g18' n118
  refine wpAnyH_ready (rs:=[15]) (by kernel_rfl) (by simp) ?_
  refine AllReadyH.cons rfl (fun K hK=>?_) AllReadyH.nil
  go_simp
  refine hK.out _ _ ?_ (fun hHeld=>?_)
  ·(try dsimp only);first | (go_keep;done) | ((repeat' apply And.intro) <;> go_simp)
  clear hK K
  try simp only [YS,YT,YU]
  refine wpAnyH_ready (rs:=[16]) (by kernel_rfl) (by simp) ?_
  refine AllReadyH.cons rfl (fun K hK=>?_) AllReadyH.nil
  go_simp
  refine hK.out _ _ ?_ (fun hHeld=>?_)
  ·(try dsimp only);first | (go_keep;done) | ((repeat' apply And.intro) <;> go_simp)
  clear hK K
  try simp only [YS,YT,YU]
  refine wpAnyH_ready (rs:=[17]) (by kernel_rfl) (by simp) ?_
  refine AllReadyH.cons rfl (fun K hK=>?_) AllReadyH.nil
  go_simp
  refine hK.out _ _ ?_ (fun hHeld=>?_)
  ·(try dsimp only);first | (go_keep;done) | ((repeat' apply And.intro) <;> go_simp)
  clear hK K
  try simp only [YS,YT,YU]
  refine wpAnyH_done (by kernel_rfl) ?_ _
  have hbW:Below W.heap.size W (W.alloc (.cells #[.slice (some ⟨B 1,0,none⟩) N N,.slice (some ⟨B 4,0,none⟩) N N,.slice (some ⟨B 7,0,none⟩) N N,.slice (some ⟨B 10,0,none⟩) N N,.slice (some ⟨B 14,0,none⟩) l.length l.length,.slice none 0 0,.slice none 0 0] 97)):=YD.alloc YA _
  have hlk:=QpS (a:=⟨N,l.length,W.heap.size,B 4,B 7,B 10,B 14,W.heap.size+1⟩) (hI.go hbW) (by have:=Hg.out;show B 1<W.heap.size+1;omega) (by have:=Hg.out;show B 18<W.heap.size+1;omega) hF1 hF18
  have hW2:WB ⟨N,l.length,W.heap.size,B 4,B 7,B 10,B 14,W.heap.size+1⟩ (.slice (some ⟨B 1,0,none⟩) N N) (.slice none 0 0) (.slice none 0 0) ⟨List.replicate N 0,List.replicate N 0,List.replicate N 0,List.replicate l.length 0,[],[]⟩ (W.alloc (.cells #[.slice (some ⟨B 1,0,none⟩) N N,.slice (some ⟨B 4,0,none⟩) N N,.slice (some ⟨B 7,0,none⟩) N N,.slice (some ⟨B 10,0,none⟩) N N,.slice (some ⟨B 14,0,none⟩) l.length l.length,.slice none 0 0,.slice none 0 0] 97)):=⟨heap_alloc_new W _,r4.go hbW,r7.go hbW,r10.go hbW,r14.go hbW,World.ownsRow_nil _ _ _ _,World.ownsRow_nil _ _ _ _⟩
  have y0:=Qaa hbW k0
  have hbx2:Below (xb+1) w1 (W.alloc (.cells #[.slice (some ⟨B 1,0,none⟩) N N,.slice (some ⟨B 4,0,none⟩) N N,.slice (some ⟨B 7,0,none⟩) N N,.slice (some ⟨B 10,0,none⟩) N N,.slice (some ⟨B 14,0,none⟩) l.length l.length,.slice none 0 0,.slice none 0 0] 97)):=hb.trans (hbW.mono (by omega))
  have hsz2:(W.alloc (.cells #[.slice (some ⟨B 1,0,none⟩) N N,.slice (some ⟨B 4,0,none⟩) N N,.slice (some ⟨B 7,0,none⟩) N N,.slice (some ⟨B 10,0,none⟩) N N,.slice (some ⟨B 14,0,none⟩) l.length l.length,.slice none 0 0,.slice none 0 0] 97)).heap.size=W.heap.size+1:=by simp
  have hF:∀ k,Lay.five ⟨N,l.length,W.heap.size,B 4,B 7,B 10,B 14,W.heap.size+1⟩ k→xb<k∧k<W.heap.size+1:=fun k hk=>by
   have:=Hg.out
   unfold Lay.five at hk
   have hk':k=W.heap.size∨k=B 4∨k=B 7∨k=B 10∨k=B 14:=hk
   omega
  clear hbW hI r4 r7 r10 r14 k0 k1 hF1 hF18 HJ Hg hb
  generalize (W.alloc (.cells #[.slice (some ⟨B 1,0,none⟩) N N,.slice (some ⟨B 4,0,none⟩) N N,.slice (some ⟨B 7,0,none⟩) N N,.slice (some ⟨B 10,0,none⟩) N N,.slice (some ⟨B 14,0,none⟩) l.length l.length,.slice none 0 0,.slice none 0 0] 97))=w2 at hlk hW2 y0 hbx2 hsz2 ⊢
  generalize hlay:(⟨N,l.length,W.heap.size,B 4,B 7,B 10,B 14,W.heap.size+1⟩:Lay)=lay at *
  have aN:lay.N=N:=by rw [← hlay]
  have aM:lay.M=l.length:=by rw [← hlay]
  have awb:lay.wb=W.heap.size:=by rw [← hlay]
  have adb:lay.db=B 10:=by rw [← hlay]
  have ah0:lay.h0=W.heap.size+1:=by rw [← hlay]
  rw [← ah0] at hF hsz2
  rw [← awb,← adb]
  generalize B 1=lb at *
  rw [aN] at hlk
  have hxh:xb<lay.h0:=by omega
  clear hHeld hlay awb adb ah0
  have b3:=hW2.blk.cell (j:=3) rfl
  rw [aN] at b3
  have HW2:Hid _:=hW2
  have HLK:Hid _:=hlk
  have HF:Hid _:=hF
  have HLay:Hid _:=hLay
  clear hW2 hlk hF hLay
  go_wp2
  go_loopw [27] (fun i wr=>∃ j:Nat,j≤N∧i = .int .i64 j∧Hid (WB lay (.slice (some ⟨lb,0,none⟩) N N) (.slice none 0 0) (.slice none 0 0) ⟨List.replicate N 0,List.replicate N 0,List.replicate j (-1)++List.replicate (N-j) 0,List.replicate l.length 0,[],[]⟩ wr)∧Hid (Wk lay w2 wr)) (fun i _=>N-(intOf i).toNat)
  case atStart=>exact⟨0,YN,rfl,by unfold Hid;simpa using HW2.out,Wk.refl _ _⟩
  case round=>
   obtain⟨j,hj,rfl,HWr,HKr⟩:=hrel
   by_cases hlt:j<N
   ·have c3:=HWr.out.blk.cell (j:=3) rfl
    rw [aN] at c3
    obtain⟨z,hz⟩:∃ z,wr.cell? ⟨lay.db,j,none⟩=some z:=⟨_,HWr.out.dep.cell (by rw [YH];show Option.map _ (List.replicate j (-1:Int)++List.replicate (N-j) 0)[j]? = _;rw [YB (by simp;omega)];rfl)⟩
    have fz:=HWr.out.dep.frozen j
    have hS:=HWr.out.setDepth HLay.out j (-1)
    have hk:=HKr.out.set (p:=⟨lay.db,j,none⟩) (.inl (.inr (.inr (.inr (.inl rfl))))) (.int .i64 (-1))
    have HS:Hid _:=hS
    have HK2:Hid _:=hk
    have hjN:(j:Int)<(N:Int):=by omega
    clear hS hk HWr HKr
    go_wp2
    refine⟨⟨j+1,by omega,by go_num,?_,HK2.out⟩,by simp [intOf];omega⟩
    have:=HS.out
    rw [show ({ root:=List.replicate N 0,from_:=List.replicate N 0,depth:=List.replicate j (-1)++List.replicate (N-j) 0,block:=List.replicate l.length 0,path:=[],opn:=[] }:WS).depth.set j (-1)=List.replicate (j+1) (-1)++List.replicate (N-(j+1)) 0 from Qo9 N j hlt] at this
    exact this
   ·obtain rfl:j=N:=by omega
    have hWf:WB lay (.slice (some ⟨lb,0,none⟩) j j) (.slice none 0 0) (.slice none 0 0) (Qak j l.length) wr:=by
     have:=HWr.out
     rw [Nat.sub_self] at this
     simpa [Qak] using this
    have hxf:¬ lay.five xb:=fun h=>by have:=HF.out xb h;omega
    have z0:=(World.cell?_of_block (a:=⟨xb,0,none⟩) (HKr.out.block xb hxh hxf)).trans y0
    have hC:=Qeb j l (List.replicate j (-1))
    have hCb:4*(j+l.length)+4≤1073741823:=by omega
    have hcall:=Qg9 j (by omega) lay.wb (fun k V=>∃ pv ov,WB lay (.slice (some ⟨lb,0,none⟩) j j) pv ov ((List.range k).foldl (Qas (Qay j l) (4*(j+l.length)+4)) (Qak j l.length)) V∧QaE pv ov∧Wk lay w2 V∧OkW j l.length (4*(j+l.length)+4) (Qay j l) ((List.range k).foldl (Qas (Qay j l) (4*(j+l.length)+4)) (Qak j l.length))∧((List.range k).foldl (Qas (Qay j l) (4*(j+l.length)+4)) (Qak j l.length)).path=[]) (fun k V hk hI=>by
     obtain⟨pv,ov,g1,g2,g3,g4,g5⟩:=hI
     have hst:=Qk5 lay HLay.out (.slice (some ⟨lb,0,none⟩) j j) pv ov (Qay j l) (4*(j+l.length)+4) _ k (by rw [aN];exact hk) (by rw [aN];omega) hCb (by rw [aN,aM];exact Qc3 HR.out) (Qh7 HR.out) (by rw [aN,aM];exact g4) g5 V g1 g2 (HLK.out.go g3) (by have:=g3.size;omega)
     refine hst.mono ?_
     rintro e V' ⟨rfl,pv',ov',f1,f2,f3,f4,f5⟩
     rw [aN,aM] at f4
     refine⟨rfl,pv',ov',?_,f2,g3.trans f3,?_,?_⟩
     ·rw [List.range_succ,List.foldl_append];exact f1
     ·rw [List.range_succ,List.foldl_append];exact f4
     ·rw [List.range_succ,List.foldl_append];exact f5) wr ⟨_,_,hWf,⟨.inl rfl,.inl rfl⟩,HKr.out,OkW.fresh hC,rfl⟩
    clear hWf HWr HKr hC HW2 y0 b3
    go_wp2_with fail
    refine hcall.mono ?_
    rintro e w6 ⟨rfl,pv,ov,g1,g2,g3,g4,g5⟩
    have HG1:Hid _:=g1
    have HG3:Hid _:=g3
    clear g1 g2 g3 g4 g5 hcall
    go_wp2
    go_ret
    refine⟨lay,_,pv,ov,rfl,aN,aM,HLay.out,HG1.out,HLK.out.go HG3.out,fun k hk=>?_,?_,?_⟩
    ·have:=HF.out k hk;have:=HG3.out.size;omega
    ·have:=HG3.out.size;omega
    ·rw [hxb];exact hb1.trans ((hbx2.mono (by omega)).trans (HG3.out.below (by omega) (fun k hk h=>by have:=HF.out k h;omega)))
 ·exact⟨fun _=>undef,fun _=>0,rfl,fun i hi=>by simp at hi,JW.nil _ _ _ _ _ _,Qab YD 1⟩
theorem QjV {W:World}{base:Nat}{v:Value}{xs:List Int}(h:W.ownsRow base 3 1 v xs.length (xs.map (Value.int .i64))):Ints W.heap.size W v xs:=by
 rcases h.2 with ⟨h1,h2⟩ | ⟨g,cap,cur,h1,h2,h3,h4,h5,h6,h7⟩
 ·exact .inl ⟨⟨_,_,h1⟩,List.length_eq_zero_iff.1 h2⟩
 ·subst h1
  refine .inr ⟨g,0,cap,rfl,(Array.getElem?_eq_some_iff.1 h3).1,h4,fun j x hx=>?_⟩
  have hj:=(YE hx).1
  rw [Nat.zero_add,h.cellAt j (by omega),YH,hx]
  rfl
theorem Qgd (N:Nat)(l:List Ed)(hR:RightG (N:Int) l)(hLb:QdR (walkW N l).root)(hln:(walkW N l).root.length=N)(sv:Value)(w:World)(hl:Edges w.heap.size w sv l):
  Calls Tryz.prog 122 #[.agg #[.int .i64 (N:Int),sv]] w fun r w'=>∃ lv svs h0,r = .returned lv∧Grp h0 lv svs (gath (walkW N l).root (walkW N l).root.length).2 w'∧Below w.heap.size w w'∧w.heap.size≤h0:=by
 have hg1:Grew w (w.alloc (.cells #[.int .i64 (N:Int),sv] 24)):=(Grew.refl w).alloc _
 have hl1:=hl.go hg1.below
 obtain⟨p,c,rfl⟩:=hl.len
 have hrc:=fun W h=>Qbz (N:Int) l (.slice p l.length c) W h
 rw [right_iff.2 hR] at hrc
 have hn1:=hR.n1
 have hm1:=hR.m1
 go_enter Tryz.func122,Tryz.ntmps122
 go_wp2_with fail
 refine (hrc _ hl1).mono ?_
 rintro e w2 ⟨rfl,hg2⟩
 have q0:=(box2 _ hg2).1
 have q1:=(box2 _ hg2).2
 have hbox:=Qe1 hg2
 have hbw:=(hg1.trans hg2).below
 clear hrc hl1
 go_wp2_with fail
 refine (Qe9 N l hR _ _ (hl.go hbw)).mono ?_
 rintro e w3 ⟨a,lv,pv,ov,rfl,aN,aM,hLay,hW,hLK,hF,hh,hb3⟩
 have b:=hW.blk.cell (j:=1) rfl
 have hI:=hW.root.ints
 rw [hln] at hI
 rw [aN] at b
 have hga:=fun W (hb:Below w3.heap.size w3 W)=>QeM (walkW N l).root hLb (by rw [hln];omega) _ W (hI.go hb)
 have hbw3:=hbw.trans (hb3.mono hbw.size)
 clear hW hLK hF hI
 go_wp2_with fail
 refine (hga _ YD).mono ?_
 rintro e w4 ⟨lv4,svs,h0,rfl,hG,hb4,hh4⟩
 have HG:Hid _:=hG
 have HB:Hid _:=hbw3.trans (hb4.mono hbw3.size)
 have HH:Hid (w.heap.size≤h0):=Nat.le_trans hbw3.size hh4
 clear hG hb4 hga hh4
 go_wp2
 go_ret
 exact⟨lv4,svs,h0,rfl,HG.out,HB.out,HH.out⟩
theorem Qe6 (N:Nat)(l:List Ed)(hR:RightG (N:Int) l)(hLb:QdR (walkW N l).root)(hln:(walkW N l).root.length=N)(sv:Value)(w:World)(hl:Edges w.heap.size w sv l):
  Calls Tryz.prog 122 #[.agg #[.int .i64 (N:Int),sv]] w fun r w'=>∃ lv svs h0,r = .returned lv∧Grp h0 lv svs (gath (walkW N l).root (walkW N l).root.length).2 w'∧Below w.heap.size w w':=
 (Qgd N l hR hLb hln sv w hl).mono fun _ _ ⟨a,b,c,h1,h2,h3,_⟩=>⟨a,b,c,h1,h2,h3⟩
structure OkB (M:Nat)(s:WS):Prop where
 bl:∀ x∈s.block,0≤x∧x<(M:Int)
 by_:∀ x∈(s.path.map Stp.by_).tail,0≤x∧x<(M:Int)
theorem Qgz {a b:List Int}{x:Int}(h:x∈a.tail):x∈(a++b).tail:=by
 cases a with
 | nil=>simp at h
 | cons y a=>exact List.mem_append_left _ h
theorem QkR {a:List Int}{y:Int}(h:a≠[]):y∈(a++[y]).tail:=by
 cases a with
 | nil=>exact absurd rfl h
 | cons z a=>exact List.mem_append_right _ (List.mem_singleton_self _)
theorem Qjh {y x:Int}:∀ (ps:List Int) (b:List Int),x∈ps.foldl (fun b p=>b.set p.toNat y) b→x∈b∨x=y
 | [],b,h=>.inl h
 | p :: ps,b,h=>by
  rw [List.foldl_cons] at h
  rcases Qjh ps _ h with h1 | h1
  ·rcases List.mem_or_eq_of_mem_set h1 with h2 | h2
   ·exact .inl h2
   ·exact .inr h2
  ·exact .inr h1
theorem OkB.leave {M:Nat}{s:WS}{init:List Stp}{last:Stp}(h:OkB M s)(hp:s.path=init++[last]):OkB M (Qam s init last):=by
 have hb:=h.by_
 rw [hp,List.map_append] at hb
 cases hi:init.getLast? with
 | none=>
  have e:Qam s init last={ s with path:=[] }:=by unfold Qam;rw [hi]
  rw [e]
  exact⟨h.bl,fun x hx=>by simp at hx⟩
 | some top=>
  obtain⟨pre,hpre⟩:=List.getLast?_eq_some_iff.1 hi
  by_cases hlow:last.low<at_ s.depth top.v
  ·have e:Qam s init last={ s with path:=init.dropLast++[{ top with low:=min top.low last.low }] }:=by unfold Qam;rw [hi];simp only [if_pos hlow]
   rw [e]
   have ev:(init.dropLast++[{ top with low:=min top.low last.low }]).map Stp.by_=init.map Stp.by_:=by rw [hpre];simp
   refine⟨h.bl,fun x hx=>hb x (Qgz ?_)⟩
   have hx':x∈((init.dropLast++[{ top with low:=min top.low last.low }]).map Stp.by_).tail:=hx
   rw [ev] at hx'
   exact hx'
  ·have e:Qam s init last={ s with path:=init,block:=(s.opn.drop last.opn).foldl (fun b p=>b.set p.toNat last.by_) s.block,opn:=s.opn.take last.opn }:=by unfold Qam;rw [hi];simp only [if_neg hlow]
   rw [e]
   refine⟨fun x hx=>?_,fun x hx=>hb x (Qgz hx)⟩
   rcases Qjh _ _ hx with h1 | h1
   ·exact h.bl x h1
   ·rw [h1]
    refine hb last.by_ (QkR ?_)
    rw [hpre]
    simp
theorem OkB.look {N M:Nat}{lk:List (List (Int × Int))}{s:WS}{init:List Stp}{top:Stp}{x:Int × Int}(h:OkB M s)(hK:QaS N M lk)(hp:s.path=init++[top])(hx:(lk.getD top.v.toNat [])[top.next]? = some x):OkB M (lookW s init { top with next:=top.next+1 } x):=by
 obtain⟨_,k,ek,hk⟩:=hK _ x (YK hx)
 have e1:(init++[{ top with next:=top.next+1 }]).map Stp.by_=s.path.map Stp.by_:=by rw [hp];simp
 unfold lookW
 simp only
 split
 ·refine⟨h.bl,fun y hy=>?_⟩
  have hy':y∈(((init++[{ top with next:=top.next+1 }])++[(⟨x.1,x.2,0,at_ s.depth top.v,s.opn.length⟩:Stp)]).map Stp.by_).tail:=hy
  rw [List.map_append,e1] at hy'
  have hne:s.path.map Stp.by_≠[]:=by rw [hp];simp
  rw [List.tail_append_of_ne_nil hne] at hy'
  rcases YJ hy' with h1 | h1
  ·exact h.by_ y h1
  ·have:y=x.2:=by simpa using h1
   omega
 ·split
  ·have e3:(init++[{ top with next:=top.next+1,low:=min top.low (at_ s.depth x.1) }]).map Stp.by_=s.path.map Stp.by_:=by rw [hp];simp
   refine⟨h.bl,fun y hy=>h.by_ y ?_⟩
   have hy':y∈((init++[{ top with next:=top.next+1,low:=min top.low (at_ s.depth x.1) }]).map Stp.by_).tail:=hy
   rw [e3] at hy'
   exact hy'
  ·refine⟨h.bl,fun y hy=>h.by_ y ?_⟩
   have hy':y∈((init++[{ top with next:=top.next+1 }]).map Stp.by_).tail:=hy
   rw [e1] at hy'
   exact hy'
theorem OkB.step {N M C:Nat}{lk:List (List (Int × Int))}{s:WS}(h:OkB M s)(hO:OkW N M C lk s)(hK:QaS N M lk)(hne:s.path≠[]):OkB M (stepW lk s):=by
 unfold stepW
 cases hl:s.path.getLast? with
 | none=>exact absurd (List.getLast?_eq_none_iff.1 hl) hne
 | some top=>
  have hp:=QbA hl
  simp only
  split
  ·exact h.leave hp
  ·rename_i hn
   have hle:=hO.nxt top (by rw [hp];simp)
   have hlt:top.next<degW lk top.v:=by unfold degW at hle ⊢;omega
   have hx:=YB (l:=lk.getD top.v.toNat []) hlt
   have e:(lk.getD top.v.toNat []).getD top.next (0,0)=(lk.getD top.v.toNat [])[top.next]:=by rw [YC,hx];rfl
   rw [e]
   exact h.look hK hp hx
theorem OkB.run {N M C:Nat}{lk:List (List (Int × Int))}(hK:QaS N M lk):∀ (k:Nat) {s:WS},OkB M s→OkW N M C lk s→pot lk N s≤k→OkB M (runW lk k s)
 | 0,_,h,_,_=>h
 | k+1,s,h,hO,hk=>by
  rw [runW]
  by_cases hp:s.path=[]
  ·rw [Qbx hp,QbL hp]
   exact h
  ·obtain⟨h1,h2⟩:=hO.step hK hp
   exact OkB.run hK k (h.step hO hK hp) h1 (by omega)
theorem OkB.start {N M C:Nat}{lk:List (List (Int × Int))}(hK:QaS N M lk){s:WS}{r:Nat}(h:OkB M s)(hO:OkW N M C lk s)(hp:s.path=[])(hr:r<N):OkB M (Qas lk C s r):=by
 unfold Qas
 split
 ·exact h
 ·refine OkB.run hK C (C:=C) ⟨h.bl,fun x hx=>?_⟩ (hO.root hp hr (by omega)) ?_
  ·simp only [hp] at hx
   simp at hx
  ·have:=QcR hO hp hr (by omega)
   have:=hO.bo
   omega
theorem QiC {N:Nat}{l:List Ed}(hR:RightG (N:Int) l):∀ k,k≤N→OkB l.length ((List.range k).foldl (Qas (Qay N l) (4*(N+l.length)+4)) (Qak N l.length))
 | 0,_=>⟨fun x hx=>by
   have hx':x∈List.replicate l.length (0:Int):=hx
   obtain⟨h1,h2⟩:=List.mem_replicate.1 hx'
   omega,fun x hx=>by simp [Qak] at hx⟩
 | k+1,hk=>by
  obtain⟨h1,h2⟩:=Qct hR k (by omega)
  rw [List.range_succ,List.foldl_append]
  exact (QiC hR k (by omega)).start (Qc3 hR) h1 h2 (by omega)
theorem Qho {N:Nat}{l:List Ed}(hR:RightG (N:Int) l):QdR (walkW N l).block:=by
 intro x hx
 have:=(QiC hR N YA).bl x hx
 have hl:(walkW N l).block.length=l.length:=(Qcd hR).lenK
 rw [hl]
 exact this
theorem QkE (N:Nat)(l:List Ed)(hR:RightG (N:Int) l)(hLb:QdR (walkW N l).block)(hln:(walkW N l).block.length=l.length)(sv:Value)(w:World)(hl:Edges w.heap.size w sv l):
  Calls Tryz.prog 45 #[.agg #[.int .i64 (N:Int),sv]] w fun r w'=>∃ lv svs h0,r = .returned lv∧Grp h0 lv svs (gath (walkW N l).block (walkW N l).block.length).2 w'∧Below w.heap.size w w':=by
 have hg1:Grew w (w.alloc (.cells #[.int .i64 (N:Int),sv] 24)):=(Grew.refl w).alloc _
 have hl1:=hl.go hg1.below
 obtain⟨p,c,rfl⟩:=hl.len
 have hrc:=fun W h=>Qbz (N:Int) l (.slice p l.length c) W h
 rw [right_iff.2 hR] at hrc
 have hn1:=hR.n1
 have hm1:=hR.m1
 go_enter Tryz.func45,Tryz.ntmps45
 go_wp2_with fail
 refine (hrc _ hl1).mono ?_
 rintro e w2 ⟨rfl,hg2⟩
 have q0:=(box2 _ hg2).1
 have q1:=(box2 _ hg2).2
 have hbox:=Qe1 hg2
 have hbw:=(hg1.trans hg2).below
 clear hrc hl1
 go_wp2_with fail
 refine (Qe9 N l hR _ _ (hl.go hbw)).mono ?_
 rintro e w3 ⟨a,lv,pv,ov,rfl,aN,aM,hLay,hW,hLK,hF,hh,hb3⟩
 have b:=hW.blk.cell (j:=4) rfl
 have hI:=hW.bls.ints
 rw [hln] at hI
 rw [aM] at b
 have hga:=fun W (hb:Below w3.heap.size w3 W)=>Qg8 (walkW N l).block hLb (by rw [hln];omega) _ W (hI.go hb)
 have hbw3:=hbw.trans (hb3.mono hbw.size)
 clear hW hLK hF hI
 go_wp2_with fail
 refine (hga _ YD).mono ?_
 rintro e w4 ⟨lv4,svs,h0,rfl,hG,hb4⟩
 have HG:Hid _:=hG
 have HB:Hid _:=hbw3.trans (hb4.mono hbw3.size)
 clear hG hb4 hga
 go_wp2
 go_ret
 exact⟨lv4,svs,h0,rfl,HG.out,HB.out⟩
theorem Qb4 (n:Int)(l:List Ed)(hm:l.length≤4194304)(sv:Value)(w:World)(hl:Edges w.heap.size w sv l):
  Calls Tryz.prog 18 #[.agg #[.int .i64 n,sv]] w fun r w'=>r = .returned (.bool (l.any negB))∧Below w.heap.size w w':=by
 have hmix:=mixed
 obtain⟨p,c,rfl⟩:=hl.len
 have hg1:Grew w (w.alloc (.cells #[.int .i64 n,.slice p l.length c] 24)):=(Grew.refl w).alloc _
 have x1:(w.alloc (.cells #[.int .i64 n,.slice p l.length c] 24)).cell? ⟨w.heap.size,1,none⟩=some (.slice p l.length c):=Qan rfl rfl
 have HB1:Hid (Below w.heap.size w (w.alloc (.cells #[.int .i64 n,.slice p l.length c] 24))):=hg1.below
 have HL:Hid (Edges w.heap.size w (.slice p l.length c) l):=hl
 clear hl hg1
 go_enter Tryz.func18,Tryz.ntmps18
 go_wp2
 generalize w.alloc (.cells #[.int .i64 n,.slice p l.length c] 24)=w1 at *
 go_loopw [3] (fun iv wr=>∃ k:Nat,k≤l.length∧iv = .int .i64 (k:Int)∧Hid (∀ (q:Nat) (hq:q<l.length),q<k→negB l[q]=false)∧Grew w1 wr) (fun i _=>l.length-(intOf i).toNat)
 case atStart=>exact⟨0,YN,rfl,fun q _ h=>by omega,Grew.refl _⟩
 case round=>
  obtain⟨k,hk,rfl,HS,hg⟩:=hrel
  have y1:=Qaa hg.below x1
  have HB2:Hid (Below w.heap.size w wr):=HB1.out.trans (hg.below.mono HB1.out.size)
  by_cases hlt:k<l.length
  ·have hkl:(k:Int)<(l.length:Int):=by omega
   obtain⟨b,off,rfl,hbb,hcap,hc,-⟩:=HL.out.open hlt
   obtain⟨e0,e1,e2⟩:=hc _ HB2.out k hlt
   have HLT:Hid (k<l.length):=hlt
   by_cases hneg:l[k].2.2<0
   ·have HA:Hid (l.any negB=true):=List.any_eq_true.2 ⟨l[k],YG hlt,decide_eq_true hneg⟩
    generalize l[k].2.2=wt at *
    generalize l[k].1=u at *
    generalize l[k].2.1=v at *
    clear hc HS hlt
    go_wp2
    go_ret
    exact⟨by rw [HA.out];rfl,HB2.out⟩
   ·have HS2:Hid (∀ (q:Nat) (hq:q<l.length),q<k+1→negB l[q]=false):=fun q hq h=>by
     by_cases e:q=k
     ·subst e;exact decide_eq_false hneg
     ·exact HS.out q hq (by omega)
    have HG:Hid (Grew w1 wr):=hg
    generalize l[k].2.2=wt at *
    generalize l[k].1=u at *
    generalize l[k].2.1=v at *
    clear hc HS hlt hg
    go_wp2
    exact⟨⟨k+1,HLT.out,by go_num,HS2.out,HG.out⟩,by have:=HLT.out;simp [intOf];omega⟩
  ·obtain rfl:k=l.length:=by omega
   have HA:Hid (l.any negB=false):=by
    show _=_
    rw [List.any_eq_false]
    intro e he
    obtain⟨q,hq,rfl⟩:=List.getElem_of_mem he
    rw [HS.out q hq hq]
    simp
   clear HS
   go_wp2
   go_ret
   exact⟨by rw [HA.out];rfl,HB2.out⟩
def Qg0 (n:Int)(l:List Ed)(c:Int):Bool:=decide (n≤c) && decide ((l.length:Int)≤4*c)
theorem Qh9 {n:Int}{l:List Ed}{c:Int}(h:Qg0 n l c=true):n≤c∧(l.length:Int)≤4*c:=by simpa [Qg0] using h
theorem Ql8 (n:Int)(l:List Ed)(c:Int)(h0:0≤c)(h1:c≤1000)(sv:Value)(w:World)(hl:Edges w.heap.size w sv l):
  Calls Tryz.prog 22 #[.agg #[.int .i64 n,sv],.int .i64 c] w fun r w'=>r = .returned (.bool (Qg0 n l c))∧Grew w w':=by
 unfold Qg0
 obtain⟨p,q,rfl⟩:=hl.len
 go_enter Tryz.func22,Tryz.ntmps22
 go_wp2
 all_goals go_ret
 all_goals refine⟨?_,(Grew.refl w).alloc _⟩
 all_goals simp
 all_goals first | done | omega | (simp_all <;> omega)
theorem Qpr:(Tryz.prog.info? 4).map (fun i=>(i.zero,i.size,i.bytes))=some (some (.bool false),1,1):=by kernel_rfl
theorem Qiv (n:Nat):(madeCells (Value.bool false).cells (n*1)).toList=(List.replicate n false).map Value.bool:=by
 apply List.ext_getElem
 ·simp [madeCells]
 ·intro i h1 h2
  simp [madeCells,Value.cells,Nat.mod_one]
def butP (N v j:Nat):List Bool:=(List.range N).map fun i=>decide (i<j) && decide (i≠v)
theorem Qd8 (N v j:Nat):(butP N v j).length=N:=by simp [butP]
theorem Qgh {N v j i:Nat}(h:i<N):(butP N v j)[i]? = some (decide (i<j) && decide (i≠v)):=by simp [butP,h]
theorem Qm1 (N v:Nat):butP N v 0=List.replicate N false:=by
 apply List.ext_getElem?
 intro i
 by_cases h:i<N
 ·rw [Qgh h];simp [h]
 ·rw [YL (by rw [Qd8];omega),YL (by simp;omega)]
theorem Qm3 (N v:Nat):butP N v N=butL N v:=by
 unfold butP butL
 refine List.map_congr_left fun i hi=>?_
 rw [decide_eq_true (List.mem_range.1 hi),Bool.true_and]
theorem Qm2 {N v j:Nat}:(butP N v j).set j (decide (j≠v))=butP N v (j+1):=by
 apply List.ext_getElem?
 intro i
 by_cases hi:i<N
 ·rw [List.getElem?_set,Qd8,Qgh hi,Qgh hi]
  by_cases e:j=i
  ·subst e
   rw [if_pos rfl,if_pos hi]
   simp
  ·rw [if_neg e]
   have:(i<j↔i<j+1):=by omega
   simp only [this]
 ·rw [YL (by rw [List.length_set,Qd8];omega),YL (by rw [Qd8];omega)]
theorem QjR (N:Nat)(hn:N≤1048576)(v:Nat)(w:World):
  Calls Tryz.prog 76 #[.int .i64 (N:Int),.int .i64 (v:Int)] w fun r w'=>∃ sk,r = .returned sk∧Bools w'.heap.size w' sk (butL N v)∧Below w.heap.size w w':=by
 obtain⟨i0,hi,hz0,hz1,hz2⟩:=info_parts Qpr
 go_enter Tryz.func76,Tryz.ntmps76
 go_wp2_with (at_make;refine wpList_make_full _ rfl _ _ 25 rfl w.heap.size 4 i0 (.bool false) 1 Tryz.underlying25 hi hz0 hz1 .i64 .i64 _ _ N rfl rfl rfl rfl (by rw [hz2];omega) (by unfold maxLen;omega) YA ?_;intro w3 hown hgrow;have hb3:Below w.heap.size w w3:=YD.grown hgrow YA (fun k e=>by cases e))
 have hrow:=Blk.made hown
 rw [Qiv,← Qm1 N v] at hrow
 clear hown hgrow hi hz0 hz1 hz2
 obtain⟨g,hg⟩:∃ g,g=w.heap.size:=⟨_,rfl⟩
 rw [← hg] at hrow hb3 ⊢
 have HG:Hid (g=w.heap.size):=hg
 clear hg
 go_loopw [6] (fun i wr=>∃ j:Nat,j≤N∧i = .int .i64 j∧Blk 4 wr g ((butP N v j).map Value.bool)∧Below g w3 wr) (fun i _=>N-(intOf i).toNat)
 case atStart=>exact⟨0,YN,rfl,hrow,YD⟩
 case round=>
  obtain⟨j,hj,rfl,hB,hb⟩:=hrel
  by_cases hlt:j<N
  ·have hjl:(j:Int)<(N:Int):=by omega
   have t0:wr.cell? ⟨g,j,none⟩=some (.bool (decide (j<j) && decide (j≠v))):=hB.cell (by rw [YH,Qgh hlt];rfl)
   have f0:=hB.frozen j
   have e1:((j:Int) != (v:Int))=decide (j≠v):=by
    by_cases e:j=v
    ·subst e;simp
    ·have:¬ (j:Int)=(v:Int):=by omega
     simp [e,this]
   have hBn:=hB.set j (.bool (decide (j≠v)))
   rw [← List.map_set,Qm2,← e1] at hBn
   clear e1
   go_wp2
   exact⟨⟨j+1,by omega,by go_num,hBn,hb.setCell (p:=⟨g,j,none⟩) YA _⟩,by simp [intOf];omega⟩
  ·obtain rfl:j=N:=by omega
   have hN:¬ (j:Int)<(j:Int):=by omega
   rw [Qm3] at hB
   have hbw:Below g w wr:=hb3.trans (hb.mono YA)
   have hlt2:=hB.lt
   go_wp2
   go_ret
   refine⟨.slice (some ⟨g,0,none⟩) j j,rfl,.inr ⟨g,0,j,by rw [Qgi],hlt2,by rw [Qgi];exact YA,fun i x hx=>?_⟩,by rw [← HG.out];exact hbw⟩
   rw [Nat.zero_add]
   exact hB.cell (by rw [YH,hx];rfl)
def QaZ (e:Ed)(v:Int):Int:=if e.1=v then e.2.1 else e.1
def atE (e:Ed)(v:Int):Bool:=e.1==v || e.2.1==v
theorem QdH (x y z v:Int)(w:World):
  Calls Tryz.prog 77 #[.agg #[.int .i64 x,.int .i64 y,.int .i64 z],.int .i64 v] w fun r w'=>r = .returned (.tuple #[.int .i64 (QaZ (x,y,z) v),.bool (atE (x,y,z) v)])∧Grew w w':=by
 have hg1:Grew w (w.alloc (.cells #[.int .i64 x,.int .i64 y,.int .i64 z] 50)):=(Grew.refl w).alloc _
 have hX1:Blk 50 (w.alloc (.cells #[.int .i64 x,.int .i64 y,.int .i64 z] 50)) w.heap.size [.int .i64 x,.int .i64 y,.int .i64 z]:=heap_alloc_new w _
 have q0:=hX1.cell (j:=0) rfl
 have q1:=hX1.cell (j:=1) rfl
 by_cases h:x=v
 ·have h':(x==v)=true:=by simpa using h
  have e1:QaZ (x,y,z) v=y:=by unfold QaZ;rw [if_pos h]
  have e2:atE (x,y,z) v=true:=by unfold atE;rw [h',Bool.true_or]
  rw [e1,e2]
  clear e1 e2 h
  go_enter Tryz.func77,Tryz.ntmps77
  go_wp2
  go_ret2
  exact⟨rfl,hg1⟩
 ·have h':(x==v)=false:=by simpa using h
  have e1:QaZ (x,y,z) v=x:=by unfold QaZ;rw [if_neg h]
  have e2:atE (x,y,z) v=(y==v):=by unfold atE;rw [h',Bool.false_or]
  rw [e1,e2]
  clear e1 e2 h
  go_enter Tryz.func77,Tryz.ntmps77
  go_wp2
  go_quiet (fail)
  go_wp2
  go_ret2
  exact⟨rfl,hg1.drewN _⟩
def joinL (x y:Int)(O:List Int):List Int:=O.map fun t=>if t=y then x else t
theorem Qbi (x y:Int)(O:List Int):(joinL x y O).length=O.length:=by simp [joinL]
theorem Qoa {x y:Int}{O:List Int}{t:Nat}(h:t<O.length):(joinL x y O).getD t 0=if O.getD t 0=y then x else O.getD t 0:=by
 unfold joinL
 rw [YC,YH,YC,YB h]
 rfl
def condB (es:List Ed)(lab:List Int)(v:Int)(i k:Nat):Bool:=atE (es.getD i (0,0,0)) v && atE (es.getD k (0,0,0)) v && (lab.getD (QaZ (es.getD i (0,0,0)) v).toNat 0==lab.getD (QaZ (es.getD k (0,0,0)) v).toNat 0)
def stepB (es:List Ed)(lab:List Int)(v:Int)(i k:Nat)(O:List Int):List Int:=
 if condB es lab v i k=true∧O.getD i 0≠O.getD k 0 then joinL (min (O.getD i 0) (O.getD k 0)) (max (O.getD i 0) (O.getD k 0)) O else O
def rowB (es:List Ed)(lab:List Int)(v:Int)(i:Nat)(O:List Int):Nat→List Int
 | 0=>O
 | k+1=>stepB es lab v i k (rowB es lab v i O k)
def vertB (es:List Ed)(lab:List Int)(v:Int)(O:List Int):Nat→List Int
 | 0=>O
 | i+1=>rowB es lab v i (vertB es lab v O i) i
def ofAt (N:Nat)(es:List Ed):Nat→List Int
 | 0=>idL es.length
 | v+1=>vertB es (labAt N (cutG N es v) N) (v:Int) (ofAt N es v) es.length
structure JoinI (M:Nat)(B O:List Int):Prop where
 len:O.length=M
 least:Least O
 sound:∀ s t,s<M→t<M→O.getD s 0=O.getD t 0→B.getD s 0=B.getD t 0
def Coarse (M:Nat)(O O':List Int):Prop:=∀ s t,s<M→t<M→O.getD s 0=O.getD t 0→O'.getD s 0=O'.getD t 0
theorem Coarse.refl (M:Nat)(O:List Int):Coarse M O O:=fun _ _ _ _ h=>h
theorem Coarse.trans {M:Nat}{a b c:List Int}(h:Coarse M a b)(h':Coarse M b c):Coarse M a c:=fun s t hs ht e=>h' s t hs ht (h s t hs ht e)
section
variable {es:List Ed} {lab B:List Int} {v:Int} {M:Nat}
theorem Qk2 {O:List Int}{i k:Nat}(h:JoinI M B O)(hi:i<M)(hk:k<M)(hB:condB es lab v i k=true→B.getD i 0=B.getD k 0):
  JoinI M B (stepB es lab v i k O)∧Coarse M O (stepB es lab v i k O)∧(condB es lab v i k=true→(stepB es lab v i k O).getD i 0=(stepB es lab v i k O).getD k 0):=by
 unfold stepB
 by_cases hc:condB es lab v i k=true∧O.getD i 0≠O.getD k 0
 ·rw [if_pos hc]
  have hBe:=hB hc.1
  have hat:∀ t,t<M→(joinL (min (O.getD i 0) (O.getD k 0)) (max (O.getD i 0) (O.getD k 0)) O).getD t 0=if O.getD t 0=max (O.getD i 0) (O.getD k 0) then min (O.getD i 0) (O.getD k 0) else O.getD t 0:=fun t ht=>Qoa (by rw [h.len];exact ht)
  obtain⟨xi,ei,li,ri⟩:=h.least i (by rw [h.len];exact hi)
  obtain⟨xk,ek,lk,rk⟩:=h.least k (by rw [h.len];exact hk)
  have hne:=hc.2
  have coarse:Coarse M O (joinL (min (O.getD i 0) (O.getD k 0)) (max (O.getD i 0) (O.getD k 0)) O):=fun s t hs ht e=>by rw [hat s hs,hat t ht,e]
  refine⟨⟨by rw [Qbi];exact h.len,fun t ht=>?_,fun s t hs ht e=>?_⟩,coarse,fun _=>?_⟩
  ·rw [Qbi,h.len] at ht
   obtain⟨r,er,lr,rr⟩:=h.least t (by rw [h.len];exact ht)
   by_cases e:O.getD t 0=max (O.getD i 0) (O.getD k 0)
   ·rw [hat t ht,if_pos e]
    by_cases hlt:xi<xk
    ·refine⟨xi,by omega,by omega,?_⟩
     rw [hat xi (by omega),if_neg (by omega),ri]
    ·refine⟨xk,by omega,by omega,?_⟩
     rw [hat xk (by omega),if_neg (by omega),rk]
   ·rw [hat t ht,if_neg e]
    refine⟨r,er,lr,?_⟩
    rw [hat r (by omega),if_neg (by omega),rr]
  ·rw [hat s hs,hat t ht] at e
   have cls:∀ t,t<M→O.getD t 0=max (O.getD i 0) (O.getD k 0)∨O.getD t 0=min (O.getD i 0) (O.getD k 0)→B.getD t 0=B.getD i 0:=fun t ht h1=>by
    have h2:O.getD t 0=O.getD i 0∨O.getD t 0=O.getD k 0:=by omega
    rcases h2 with h2 | h2
    ·exact h.sound t i ht hi h2
    ·rw [h.sound t k ht hk h2,hBe]
   by_cases e1:O.getD s 0=max (O.getD i 0) (O.getD k 0)
   ·by_cases e2:O.getD t 0=max (O.getD i 0) (O.getD k 0)
    ·exact h.sound s t hs ht (e1.trans e2.symm)
    ·rw [if_pos e1,if_neg e2] at e
     rw [cls s hs (.inl e1),cls t ht (.inr e.symm)]
   ·by_cases e2:O.getD t 0=max (O.getD i 0) (O.getD k 0)
    ·rw [if_neg e1,if_pos e2] at e
     rw [cls s hs (.inr e),cls t ht (.inl e2)]
    ·rw [if_neg e1,if_neg e2] at e
     exact h.sound s t hs ht e
  ·rw [hat i hi,hat k hk]
   by_cases e1:O.getD i 0=max (O.getD i 0) (O.getD k 0)
   ·rw [if_pos e1,if_neg (by omega)]
    omega
   ·rw [if_neg e1,if_pos (by omega)]
    omega
 ·rw [if_neg hc]
  refine⟨h,.refl _ _,fun h1=>?_⟩
  apply Classical.byContradiction
  intro h2
  exact hc ⟨h1,h2⟩
theorem QiN {O:List Int}{i:Nat}(h:JoinI M B O)(hi:i<M)(hB:∀ k,k<M→condB es lab v i k=true→B.getD i 0=B.getD k 0):∀ {j:Nat},j≤i →
  JoinI M B (rowB es lab v i O j)∧Coarse M O (rowB es lab v i O j)∧∀ k,k<j→condB es lab v i k=true→(rowB es lab v i O j).getD i 0=(rowB es lab v i O j).getD k 0
 | 0,_=>⟨h,.refl _ _,fun k hk=>by omega⟩
 | j+1,hj=>by
  obtain⟨h1,h2,h3⟩:=QiN h hi hB (j:=j) (by omega)
  obtain⟨g1,g2,g3⟩:=Qk2 (es:=es) (lab:=lab) (v:=v) h1 hi (k:=j) (by omega) (hB j (by omega))
  refine⟨g1,h2.trans g2,fun k hk hc=>?_⟩
  by_cases e:k=j
  ·subst e
   exact g3 hc
  ·exact g2 i k hi (by omega) (h3 k (by omega) hc)
theorem Qgs {O:List Int}(h:JoinI M B O)(hB:∀ i k,i<M→k<M→condB es lab v i k=true→B.getD i 0=B.getD k 0):∀ {j:Nat},j≤M →
  JoinI M B (vertB es lab v O j)∧Coarse M O (vertB es lab v O j)∧∀ i k,i<j→k<i→condB es lab v i k=true→(vertB es lab v O j).getD i 0=(vertB es lab v O j).getD k 0
 | 0,_=>⟨h,.refl _ _,fun i k hi=>by omega⟩
 | j+1,hj=>by
  obtain⟨h1,h2,h3⟩:=Qgs h hB (j:=j) (by omega)
  obtain⟨g1,g2,g3⟩:=QiN (es:=es) (lab:=lab) (v:=v) h1 (i:=j) (by omega) (fun k hk=>hB j k (by omega) hk) (j:=j) YA
  refine⟨g1,h2.trans g2,fun i k hi hk hc=>?_⟩
  by_cases e:i=j
  ·subst e
   exact g3 k hk hc
  ·exact g2 i k (by omega) (by omega) (h3 i k (by omega) hk hc)
end
theorem Qd6 {N:Nat}{l:List Ed}(hR:RightG (N:Int) l){v i k:Nat}(hi:i<l.length)(hk:k<l.length):condB l (labAt N (cutG N l v) N) (v:Int) i k=true↔∃ a b,Joins l i v a∧Joins l k v b∧Conn (cutG N l v) a b:=by
 have hE:Ends N (cutG N l v):=Qaw (Qfr hR _)
 have get:∀ {j:Nat},(hj:j<l.length)→l.getD j (0,0,0)=l[j]:=fun hj=>by rw [YC,YB hj];rfl
 have one:∀ {j:Nat},(hj:j<l.length)→(atE l[j] (v:Int)=true→Joins l j v (QaZ l[j] (v:Int)).toNat)∧∀ a,Joins l j v a→atE l[j] (v:Int)=true∧(QaZ l[j] (v:Int)).toNat=a:=fun {j} hj=>by
  have hok:=hR.each _ (YG hj)
  have hlt:=hok.2
  have hok:=hok.1
  unfold okE at hok
  unfold atE QaZ
  constructor
  ·intro h
   refine⟨l[j],YB hj,?_⟩
   rw [Bool.or_eq_true,beq_iff_eq,beq_iff_eq] at h
   split <;> omega
  ·rintro a ⟨e,h1,h2⟩
   rw [YB hj] at h1
   cases h1
   rw [Bool.or_eq_true,beq_iff_eq,beq_iff_eq]
   split <;> omega
 unfold condB
 rw [get hi,get hk,Bool.and_eq_true,Bool.and_eq_true,beq_iff_eq]
 constructor
 ·rintro⟨⟨h1,h2⟩,h3⟩
  have j1:=(one hi).1 h1
  have j2:=(one hk).1 h2
  exact⟨_,_,j1,j2,(Qd0 hE (j1.below hR).2 (j2.below hR).2).1 h3⟩
 ·rintro⟨a,b,j1,j2,hc⟩
  obtain⟨a1,a2⟩:=(one hi).2 a j1
  obtain⟨b1,b2⟩:=(one hk).2 b j2
  rw [a2,b2]
  exact⟨⟨a1,b1⟩,(Qd0 hE (j1.below hR).2 (j2.below hR).2).2 hc⟩
theorem Qjd {M t:Nat}(h:t<M):(idL M).getD t 0=(t:Int):=by simp [idL,h]
theorem Qig (M:Nat):(idL M).length=M:=by simp [idL]
theorem Qh0 {N:Nat}{l:List Ed}(hR:RightG (N:Int) l):∀ {j:Nat},j≤N →
  JoinI l.length (walkW N l).block (ofAt N l j)∧∀ v i k,v<j→i<l.length→k<i→condB l (labAt N (cutG N l v) N) (v:Int) i k=true→(ofAt N l j).getD i 0=(ofAt N l j).getD k 0
 | 0,_=>by
  refine⟨⟨Qig _,fun t ht=>?_,fun s t hs ht e=>?_⟩,fun v i k hv=>by omega⟩
  ·have ht':t<l.length:=by
    have e:(ofAt N l 0).length=l.length:=Qig _
    omega
   exact⟨t,Qjd ht',YA,Qjd ht'⟩
  ·have e1:(idL l.length).getD s 0=(idL l.length).getD t 0:=e
   rw [Qjd hs,Qjd ht] at e1
   have:s=t:=by omega
   rw [this]
 | j+1,hj=>by
  obtain⟨h1,h2⟩:=Qh0 hR (j:=j) (by omega)
  obtain⟨g1,g2,g3⟩:=Qgs (es:=l) (lab:=labAt N (cutG N l j) N) (v:=(j:Int)) h1 (fun i k hi hk hc=>by
   obtain⟨a,b,j1,j2,hcn⟩:=(Qd6 hR hi hk).1 hc
   exact ((Qdh hR).at hR (Qdg hR) (Qcp hR j) j1 j2).2 hcn) (j:=l.length) YA
  refine⟨g1,fun v i k hv hi hk hc=>?_⟩
  by_cases e:v=j
  ·subst e
   exact g3 i k hi hk hc
  ·exact g2 i k hi (by omega) (h2 v i k (by omega) hi hk hc)
theorem Qpf {N:Nat}{l:List Ed}(hR:RightG (N:Int) l){s t:Nat}(hs:s<l.length)(ht:t<l.length):(walkW N l).block.getD s 0=(walkW N l).block.getD t 0↔(ofAt N l N).getD s 0=(ofAt N l N).getD t 0:=by
 obtain⟨h1,h2⟩:=Qh0 hR (j:=N) YA
 refine⟨fun e=>?_,h1.sound s t hs ht⟩
 refine (Qdh hR).parts hR (Qdg hR) (fun v _=>Qcp hR v) (G:=fun k=>(ofAt N l N).getD k 0) (fun k k' hL=>?_) hs ht e
 obtain⟨v,a,b,j1,j2,hc⟩:=hL
 have hv:=(j1.below hR).1
 rcases Nat.lt_trichotomy k k' with hlt | rfl | hgt
 ·exact (h2 v k' k hv j2.lt hlt ((Qd6 hR j2.lt j1.lt).2 ⟨b,a,j2,j1,hc.symm⟩)).symm
 ·rfl
 ·exact h2 v k k' hv j1.lt hgt ((Qd6 hR j1.lt j2.lt).2 ⟨a,b,j1,j2,hc⟩)
theorem Qfw {B O:List Int}:∀ {i:Nat},(∀ s t,s<i→t<i→(B.getD s 0=B.getD t 0↔O.getD s 0=O.getD t 0))→(gath B i).2=(gath O i).2∧∃ rs:List Nat,(∀ r∈rs,r<i)∧(gath B i).1=rs.map (B.getD · 0)∧(gath O i).1=rs.map (O.getD · 0)
 | 0,_=>⟨rfl,[],by simp,rfl,rfl⟩
 | i+1,h=>by
  obtain⟨h1,rs,h2,h3,h4⟩:=Qfw (i:=i) (fun s t hs ht=>h s t (by omega) (by omega))
  have hm:B.getD i 0∈(gath B i).1↔O.getD i 0∈(gath O i).1:=by
   rw [h3,h4,List.mem_map,List.mem_map]
   constructor
   ·rintro⟨r,hr,e⟩
    exact⟨r,hr,(h r i (by have:=h2 r hr;omega) (by omega)).1 e⟩
   ·rintro⟨r,hr,e⟩
    exact⟨r,hr,(h r i (by have:=h2 r hr;omega) (by omega)).2 e⟩
  have hidx:(gath B i).1.idxOf (B.getD i 0)=(gath O i).1.idxOf (O.getD i 0):=by
   rw [h3,h4]
   clear h3 h4 h1 hm
   induction rs with
   | nil=>rfl
   | cons r rs ih=>
    have hr:=h2 r (List.mem_cons_self ..)
    have hd:=h r i (by omega) (by omega)
    rw [List.map_cons,List.map_cons,List.idxOf_cons,List.idxOf_cons,ih (fun r hr=>h2 r (List.mem_cons_of_mem _ hr))]
    by_cases e:B.getD r 0=B.getD i 0
    ·rw [beq_iff_eq.2 e,beq_iff_eq.2 (hd.1 e)]
    ·have e':¬ O.getD r 0=O.getD i 0:=fun x=>e (hd.2 x)
     rw [beq_eq_false_iff_ne.2 e,beq_eq_false_iff_ne.2 e']
  by_cases hb:B.getD i 0∈(gath B i).1
  ·rw [Qa5 hb,Qa5 (hm.1 hb),h1,hidx]
   exact⟨rfl,rs,fun r hr=>by have:=h2 r hr;omega,h3,h4⟩
  ·rw [Qa6 hb,Qa6 (fun e=>hb (hm.2 e)),h1]
   refine⟨rfl,rs++[i],fun r hr=>?_,?_,?_⟩
   ·rcases YJ hr with h5 | h5
    ·have:=h2 r h5
     omega
    ·have:=YF h5
     omega
   ·show (gath B i).1++[B.getD i 0]=_
    rw [h3,List.map_append]
    rfl
   ·show (gath O i).1++[O.getD i 0]=_
    rw [h4,List.map_append]
    rfl
theorem Qhz {N:Nat}{l:List Ed}(hR:RightG (N:Int) l):(gath (walkW N l).block (walkW N l).block.length).2=rcAt (ofAt N l N) l.length l.length:=by
 have hlen:(walkW N l).block.length=l.length:=(Qcd hR).lenK
 obtain⟨h1,_⟩:=Qh0 hR (j:=N) YA
 have h2:=Qmw h1.least
 rw [h1.len] at h2
 rw [hlen,← h2]
 exact (Qfw fun s t hs ht=>Qpf hR hs ht).1
end Go.Proofs.YtalflecmadacaaaGreat
