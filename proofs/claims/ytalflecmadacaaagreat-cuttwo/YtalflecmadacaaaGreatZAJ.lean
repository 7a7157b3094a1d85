import Derived.Test.YtalflecmadacaaaGreatZAI
import Derived.Deep.OwnRows
import Derived.Test.YtalflecmadacaaaGreatZAH
import Derived.Deep.AppendLies
import Derived.OwnWalk
import Derived.Maps.AppendAt
import Derived.Test.YtalflecmadacaaaGreatZAD
import Derived.Test.YtalflecmadacaaaGreatZAA
set_option maxRecDepth 100000
set_option maxHeartbeats 8000000
namespace Go.Proofs.YtalflecmadacaaaGreat
open Go Go.Proofs Go.RowKit
theorem Qi3 (N:Nat)(l:List Ed)(hR:RightG (N:Int) l)(sv:Value)(w:World)(hl:Edges w.heap.size w sv l):
  Calls Tryz.prog 73 #[.agg #[.int .i64 (N:Int),sv]] w fun r w'=>∃ (a:Lay) (lv pv ov:Value),r = .returned (.pointer (some ⟨a.wb,0,none⟩))∧a.N=N∧a.M=l.length∧LayOK a∧WB a lv pv ov (walkW N l) w'∧LK a lv (QaJ N l) w'∧(∀ k,a.five k→w.heap.size<k∧k<w'.heap.size)∧a.h0≤w'.heap.size∧Below w.heap.size w w':=by
 have hmix:=mixed
 obtain⟨p,c,rfl⟩:=hl.len
 have hn1:=hR.n1
 have hm1:=hR.m1
 have hb1:Below w.heap.size w (w.alloc (.cells #[.int .i64 (N:Int),.slice p l.length c] 24)):=YD.alloc YA _
 have q0:(w.alloc (.cells #[.int .i64 (N:Int),.slice p l.length c] 24)).cell? ⟨w.heap.size,0,none⟩=some (.int .i64 (N:Int)):=Qam rfl rfl
 have q1:(w.alloc (.cells #[.int .i64 (N:Int),.slice p l.length c] 24)).cell? ⟨w.heap.size,1,none⟩=some (.slice p l.length c):=Qam rfl rfl
 have hsz1:(w.alloc (.cells #[.int .i64 (N:Int),.slice p l.length c] 24)).heap.size=w.heap.size+1:=by simp
 have HL:Hid (Edges w.heap.size w (.slice p l.length c) l):=hl
 have HR:Hid _:=hR
 clear hl hR
 go_enter Tryz.func73,Tryz.ntmps73
 go_wp2
 generalize hw1:(w.alloc (.cells #[.int .i64 (N:Int),.slice p l.length c] 24))=w1 at *
 generalize hxb:w.heap.size=xb at *
 refine wp_region_held_drew (S:=(fun w':World=>w'.cell? ⟨xb,0,none⟩=some (.int .i64 (N:Int))∧w'.cell? ⟨xb,1,none⟩=some (.slice p l.length c))) (by kernel_rfl) ?_ (fun hHeld=>?_)
 ·(try dsimp only);go_keep
 refine tH 0 ?_
 try simp only [YS]
 refine tH 2 ?_
 refine tH 3 ?_
 refine tH 5 ?_
 refine tH 6 ?_
 refine tH 8 ?_
 refine tH 9 ?_
 refine tH 11 ?_
 refine tH 12 ?_
 refine tH 13 ?_
 simp only [YS,YT,YU]
 refine Qck [1,4,7,10,14] (by decide) #[true,true,true,true,true,true,true,true,true,true,true,true,true,true,true,false,false,false] (fun d a W=>∃ X B,a={ tmps:=#[.agg #[.int .i64 (N:Int),.slice p l.length c],.pointer (some ⟨xb,0,none⟩),.pointer none,undef,undef,.agg #[.int .i64 (N:Int),.slice p l.length c],X 1,.pointer (some ⟨xb,0,none⟩),.int .i64 (N:Int),X 4,.pointer (some ⟨xb,0,none⟩),.int .i64 (N:Int),X 7,.pointer (some ⟨xb,0,none⟩),.int .i64 (N:Int),X 10,.pointer (some ⟨xb,1,none⟩),.slice p l.length c,.int .i64 (l.length:Int),X 14,undef,undef,undef,undef,undef,undef,undef,undef,undef,undef,undef,undef,undef,undef,undef,undef,undef,undef,undef,undef,undef,undef,undef],defers:=[] }∧(∀ i∈d,i≠18)∧JW N l (xb+1) d X B W∧Below (xb+1) w1 W) 3 ?_ ?_ 5 _ [] _ _ rfl (by kernel_rfl) ?_
 ·intro i hi d a W hid hJ
  obtain⟨X,B,rfl,hd18,hJ,hb⟩:=hJ
  have hi':i=1∨i=4∨i=7∨i=10∨i=14:=by simpa using hi
  have hWs:xb+1≤W.heap.size:=by have:=hb.size;omega
  have hbw:Below xb w W:=hb1.trans (hb.mono (by omega))
  have keep:∀ W',Below W.heap.size W W'→W'.cell? ⟨xb,0,none⟩=some (.int .i64 (N:Int))∧W'.cell? ⟨xb,1,none⟩=some (.slice p l.length c):=fun W' h=>by
   have h':=hb.trans (h.mono hWs)
   exact⟨(h'.cell (p:=⟨xb,0,none⟩) (by simp)).trans q0,(h'.cell (p:=⟨xb,1,none⟩) (by simp)).trans q1⟩
  clear hi hHeld
  rcases hi' with rfl | rfl | rfl | rfl | rfl
  ·refine Qas rfl (fun K hK=>?_)
   have HJ:Hid _:=hJ
   have HKp:Hid _:=keep
   clear hJ keep
   go_simp
   refine (Qjx N l HR.out _ W ((Edges.below HL.out hbw).mono (by omega))).mono ?_
   rintro e W2 ⟨lb,sb,rfl,g1,g2,g3,g4,g5⟩
   refine hK.out _ _ (HKp.out _ g5) ⟨_,_,?_,fun j hj=>?_,HJ.out.addLnk hid (fun h=>hd18 18 h rfl) hWs g1 g2 g3 g4 g5,hb.trans (g5.mono hWs)⟩
   ·rfl
   ·rcases List.mem_cons.1 hj with rfl | hj
    ·decide
    ·exact hd18 j hj
  ·refine Qas rfl (fun K hK=>?_)
   have hmk:=run_make_row' (P:=Tryz.prog) 27 3 (.int .i64 0) 8 Tryz.underlying27 infoI rfl .i64 .i64 (N) (by omega) (by omega)
   have HJ:Hid _:=hJ
   have HKp:Hid _:=keep
   clear hJ keep
   go_simp
   have hbx:Below W.heap.size W (W.alloc (.cells (madeCells #[.int .i64 0] (N)) 3)):=YD.alloc YA _
   have hbk:Blk 3 (W.alloc (.cells (madeCells #[.int .i64 0] (N)) 3)) W.heap.size (rowZ (lenR N l.length 4)):=by
    have h0:(W.alloc (.cells (madeCells #[.int .i64 0] (N)) 3)).heap[W.heap.size]? = some (.cells (madeCells #[.int .i64 0] (N)) 3 (0,0)):=heap_alloc_new W _
    show _=some (Obj.cells (rowZ (N)).toArray 3 (0,0))
    rw [← QcJ]
    simpa using h0
   refine hK.out _ _ (HKp.out _ hbx) ⟨_,_,?_,fun j hj=>?_,HJ.out.addRow hid (by decide) (by decide) hWs hbk hbx,hb.trans (hbx.mono hWs)⟩
   ·rfl
   ·rcases List.mem_cons.1 hj with rfl | hj
    ·decide
    ·exact hd18 j hj
  ·refine Qas rfl (fun K hK=>?_)
   have hmk:=run_make_row' (P:=Tryz.prog) 27 3 (.int .i64 0) 8 Tryz.underlying27 infoI rfl .i64 .i64 (N) (by omega) (by omega)
   have HJ:Hid _:=hJ
   have HKp:Hid _:=keep
   clear hJ keep
   go_simp
   have hbx:Below W.heap.size W (W.alloc (.cells (madeCells #[.int .i64 0] (N)) 3)):=YD.alloc YA _
   have hbk:Blk 3 (W.alloc (.cells (madeCells #[.int .i64 0] (N)) 3)) W.heap.size (rowZ (lenR N l.length 7)):=by
    have h0:(W.alloc (.cells (madeCells #[.int .i64 0] (N)) 3)).heap[W.heap.size]? = some (.cells (madeCells #[.int .i64 0] (N)) 3 (0,0)):=heap_alloc_new W _
    show _=some (Obj.cells (rowZ (N)).toArray 3 (0,0))
    rw [← QcJ]
    simpa using h0
   refine hK.out _ _ (HKp.out _ hbx) ⟨_,_,?_,fun j hj=>?_,HJ.out.addRow hid (by decide) (by decide) hWs hbk hbx,hb.trans (hbx.mono hWs)⟩
   ·rfl
   ·rcases List.mem_cons.1 hj with rfl | hj
    ·decide
    ·exact hd18 j hj
  ·refine Qas rfl (fun K hK=>?_)
   have hmk:=run_make_row' (P:=Tryz.prog) 27 3 (.int .i64 0) 8 Tryz.underlying27 infoI rfl .i64 .i64 (N) (by omega) (by omega)
   have HJ:Hid _:=hJ
   have HKp:Hid _:=keep
   clear hJ keep
   go_simp
   have hbx:Below W.heap.size W (W.alloc (.cells (madeCells #[.int .i64 0] (N)) 3)):=YD.alloc YA _
   have hbk:Blk 3 (W.alloc (.cells (madeCells #[.int .i64 0] (N)) 3)) W.heap.size (rowZ (lenR N l.length 10)):=by
    have h0:(W.alloc (.cells (madeCells #[.int .i64 0] (N)) 3)).heap[W.heap.size]? = some (.cells (madeCells #[.int .i64 0] (N)) 3 (0,0)):=heap_alloc_new W _
    show _=some (Obj.cells (rowZ (N)).toArray 3 (0,0))
    rw [← QcJ]
    simpa using h0
   refine hK.out _ _ (HKp.out _ hbx) ⟨_,_,?_,fun j hj=>?_,HJ.out.addRow hid (by decide) (by decide) hWs hbk hbx,hb.trans (hbx.mono hWs)⟩
   ·rfl
   ·rcases List.mem_cons.1 hj with rfl | hj
    ·decide
    ·exact hd18 j hj
  ·refine Qas rfl (fun K hK=>?_)
   have hmk:=run_make_row' (P:=Tryz.prog) 27 3 (.int .i64 0) 8 Tryz.underlying27 infoI rfl .i64 .i64 (l.length) (by omega) (by omega)
   have HJ:Hid _:=hJ
   have HKp:Hid _:=keep
   clear hJ keep
   go_simp
   have hbx:Below W.heap.size W (W.alloc (.cells (madeCells #[.int .i64 0] (l.length)) 3)):=YD.alloc YA _
   have hbk:Blk 3 (W.alloc (.cells (madeCells #[.int .i64 0] (l.length)) 3)) W.heap.size (rowZ (lenR N l.length 14)):=by
    have h0:(W.alloc (.cells (madeCells #[.int .i64 0] (l.length)) 3)).heap[W.heap.size]? = some (.cells (madeCells #[.int .i64 0] (l.length)) 3 (0,0)):=heap_alloc_new W _
    show _=some (Obj.cells (rowZ (l.length)).toArray 3 (0,0))
    rw [← QcJ]
    simpa using h0
   refine hK.out _ _ (HKp.out _ hbx) ⟨_,_,?_,fun j hj=>?_,HJ.out.addRow hid (by decide) (by decide) hWs hbk hbx,hb.trans (hbx.mono hWs)⟩
   ·rfl
   ·rcases List.mem_cons.1 hj with rfl | hj
    ·decide
    ·exact hd18 j hj
 ·intro d a W hall hJ
  obtain⟨X,B,rfl,hd18,hJ,hb⟩:=hJ
  have i1:1∈d:=hall 1 (by decide)
  have i4:4∈d:=hall 4 (by decide)
  have i7:7∈d:=hall 7 (by decide)
  have i10:10∈d:=hall 10 (by decide)
  have i14:14∈d:=hall 14 (by decide)
  obtain⟨e1,hI⟩:=hJ.lnk i1
  obtain⟨e4,r4⟩:=hJ.row 4 i4 (by decide)
  obtain⟨e7,r7⟩:=hJ.row 7 i7 (by decide)
  obtain⟨e10,r10⟩:=hJ.row 10 i10 (by decide)
  obtain⟨e14,r14⟩:=hJ.row 14 i14 (by decide)
  have eN:∀ k,k≠14→lenR N l.length k=N:=fun k hk=>by unfold lenR;rw [if_neg hk]
  have eM:lenR N l.length 14=l.length:=rfl
  rw [eN 4 (by decide)] at e4 r4
  rw [eN 7 (by decide)] at e7 r7
  rw [eN 10 (by decide)] at e10 r10
  rw [eM] at e14 r14
  rw [e1,e4,e7,e10,e14]
  have g1:=hJ.ge 1 i1
  have g4:=hJ.ge 4 i4
  have g7:=hJ.ge 7 i7
  have g10:=hJ.ge 10 i10
  have g14:=hJ.ge 14 i14
  obtain⟨g18,g18',n118⟩:=hJ.sb i1
  have hLay:LayOK ⟨N,l.length,W.heap.size,B 4,B 7,B 10,B 14,W.heap.size+1⟩:=⟨by show W.heap.size<W.heap.size+1;omega,by show B 4<W.heap.size+1;omega,by show B 7<W.heap.size+1;omega,by show B 10<W.heap.size+1;omega,by show B 14<W.heap.size+1;omega,by show W.heap.size≠B 4;omega,by show W.heap.size≠B 7;omega,by show W.heap.size≠B 10;omega,by show W.heap.size≠B 14;omega,hJ.ne 4 7 i4 i7 (by decide),hJ.ne 4 10 i4 i10 (by decide),hJ.ne 4 14 i4 i14 (by decide),hJ.ne 7 10 i7 i10 (by decide),hJ.ne 7 14 i7 i14 (by decide),hJ.ne 10 14 i10 i14 (by decide)⟩
  have hF1:¬ (Lay.five ⟨N,l.length,W.heap.size,B 4,B 7,B 10,B 14,W.heap.size+1⟩ (B 1)):=by
   have n4:=hJ.ne 1 4 i1 i4 (by decide)
   have n7:=hJ.ne 1 7 i1 i7 (by decide)
   have n10:=hJ.ne 1 10 i1 i10 (by decide)
   have n14:=hJ.ne 1 14 i1 i14 (by decide)
   unfold Lay.five
   show ¬ (B 1=W.heap.size∨B 1=B 4∨B 1=B 7∨B 1=B 10∨B 1=B 14)
   omega
  have hF18:¬ (Lay.five ⟨N,l.length,W.heap.size,B 4,B 7,B 10,B 14,W.heap.size+1⟩ (B 18)):=by
   have n4:=hJ.ns 4 i4 (by decide) i1
   have n7:=hJ.ns 7 i7 (by decide) i1
   have n10:=hJ.ns 10 i10 (by decide) i1
   have n14:=hJ.ns 14 i14 (by decide) i1
   unfold Lay.five
   show ¬ (B 18=W.heap.size∨B 18=B 4∨B 18=B 7∨B 18=B 10∨B 18=B 14)
   omega
  have hcell:W.cell? ⟨xb,0,none⟩=some (.int .i64 (N:Int))∧W.cell? ⟨xb,1,none⟩=some (.slice p l.length c):=⟨(hb.cell (p:=⟨xb,0,none⟩) (by simp)).trans q0,(hb.cell (p:=⟨xb,1,none⟩) (by simp)).trans q1⟩
  obtain⟨k0,k1⟩:=hcell
  have hxW:xb<W.heap.size:=by omega
  have HJ:Hid _:=hJ
  clear hJ hHeld hd18 e1 e4 e7 e10 e14 eN eM hall i1 i4 i7 i10 i14
  have Hg:Hid (xb<B 1∧xb<B 4∧xb<B 7∧xb<B 10∧xb<B 14∧B 1<W.heap.size∧B 4<W.heap.size∧B 7<W.heap.size∧B 10<W.heap.size∧B 14<W.heap.size∧B 18<W.heap.size):=⟨by omega,by omega,by omega,by omega,by omega,by omega,by omega,by omega,by omega,by omega,by omega⟩
  clear g1 g4 g7 g10 g14 g18 g18' n118
  refine wpAnyH_ready (rs:=[15]) (by kernel_rfl) (by simp) ?_
  refine AllReadyH.cons rfl (fun K hK=>?_) AllReadyH.nil
  go_simp
  refine hK.out _ _ ?_ (fun hHeld=>?_)
  ·(try dsimp only);first | (go_keep;done) | ((repeat' apply And.intro) <;> go_simp)
  clear hK K
  try simp only [YS,YT,YU]
  refine wpAnyH_ready (rs:=[16]) (by kernel_rfl) (by simp) ?_
  refine AllReadyH.cons rfl (fun K hK=>?_) AllReadyH.nil
  go_simp
  refine hK.out _ _ ?_ (fun hHeld=>?_)
  ·(try dsimp only);first | (go_keep;done) | ((repeat' apply And.intro) <;> go_simp)
  clear hK K
  try simp only [YS,YT,YU]
  refine wpAnyH_ready (rs:=[17]) (by kernel_rfl) (by simp) ?_
  refine AllReadyH.cons rfl (fun K hK=>?_) AllReadyH.nil
  go_simp
  refine hK.out _ _ ?_ (fun hHeld=>?_)
  ·(try dsimp only);first | (go_keep;done) | ((repeat' apply And.intro) <;> go_simp)
  clear hK K
  try simp only [YS,YT,YU]
  refine wpAnyH_done (by kernel_rfl) ?_ _
  have hbW:Below W.heap.size W (W.alloc (.cells #[.slice (some ⟨B 1,0,none⟩) N N,.slice (some ⟨B 4,0,none⟩) N N,.slice (some ⟨B 7,0,none⟩) N N,.slice (some ⟨B 10,0,none⟩) N N,.slice (some ⟨B 14,0,none⟩) l.length l.length,.slice none 0 0,.slice none 0 0] 97)):=YD.alloc YA _
  have hlk:=Qpy (a:=⟨N,l.length,W.heap.size,B 4,B 7,B 10,B 14,W.heap.size+1⟩) (hI.go hbW) (by have:=Hg.out;show B 1<W.heap.size+1;omega) (by have:=Hg.out;show B 18<W.heap.size+1;omega) hF1 hF18
  have hW2:WB ⟨N,l.length,W.heap.size,B 4,B 7,B 10,B 14,W.heap.size+1⟩ (.slice (some ⟨B 1,0,none⟩) N N) (.slice none 0 0) (.slice none 0 0) ⟨List.replicate N 0,List.replicate N 0,List.replicate N 0,List.replicate l.length 0,[],[]⟩ (W.alloc (.cells #[.slice (some ⟨B 1,0,none⟩) N N,.slice (some ⟨B 4,0,none⟩) N N,.slice (some ⟨B 7,0,none⟩) N N,.slice (some ⟨B 10,0,none⟩) N N,.slice (some ⟨B 14,0,none⟩) l.length l.length,.slice none 0 0,.slice none 0 0] 97)):=⟨heap_alloc_new W _,r4.go hbW,r7.go hbW,r10.go hbW,r14.go hbW,World.ownsRow_nil _ _ _ _,World.ownsRow_nil _ _ _ _⟩
  have y0:=Qad hbW k0
  have hbx2:Below (xb+1) w1 (W.alloc (.cells #[.slice (some ⟨B 1,0,none⟩) N N,.slice (some ⟨B 4,0,none⟩) N N,.slice (some ⟨B 7,0,none⟩) N N,.slice (some ⟨B 10,0,none⟩) N N,.slice (some ⟨B 14,0,none⟩) l.length l.length,.slice none 0 0,.slice none 0 0] 97)):=hb.trans (hbW.mono (by omega))
  have hsz2:(W.alloc (.cells #[.slice (some ⟨B 1,0,none⟩) N N,.slice (some ⟨B 4,0,none⟩) N N,.slice (some ⟨B 7,0,none⟩) N N,.slice (some ⟨B 10,0,none⟩) N N,.slice (some ⟨B 14,0,none⟩) l.length l.length,.slice none 0 0,.slice none 0 0] 97)).heap.size=W.heap.size+1:=by simp
  have hF:∀ k,Lay.five ⟨N,l.length,W.heap.size,B 4,B 7,B 10,B 14,W.heap.size+1⟩ k→xb<k∧k<W.heap.size+1:=fun k hk=>by
   have:=Hg.out
   unfold Lay.five at hk
   have hk':k=W.heap.size∨k=B 4∨k=B 7∨k=B 10∨k=B 14:=hk
   omega
  clear hbW hI r4 r7 r10 r14 k0 k1 hF1 hF18 HJ Hg hb
  generalize (W.alloc (.cells #[.slice (some ⟨B 1,0,none⟩) N N,.slice (some ⟨B 4,0,none⟩) N N,.slice (some ⟨B 7,0,none⟩) N N,.slice (some ⟨B 10,0,none⟩) N N,.slice (some ⟨B 14,0,none⟩) l.length l.length,.slice none 0 0,.slice none 0 0] 97))=w2 at hlk hW2 y0 hbx2 hsz2 ⊢
  generalize hlay:(⟨N,l.length,W.heap.size,B 4,B 7,B 10,B 14,W.heap.size+1⟩:Lay)=lay at *
  have aN:lay.N=N:=by rw [← hlay]
  have aM:lay.M=l.length:=by rw [← hlay]
  have awb:lay.wb=W.heap.size:=by rw [← hlay]
  have adb:lay.db=B 10:=by rw [← hlay]
  have ah0:lay.h0=W.heap.size+1:=by rw [← hlay]
  rw [← ah0] at hF hsz2
  rw [← awb,← adb]
  generalize B 1=lb at *
  rw [aN] at hlk
  have hxh:xb<lay.h0:=by omega
  clear hHeld hlay awb adb ah0
  have b3:=hW2.blk.cell (j:=3) rfl
  rw [aN] at b3
  have HW2:Hid _:=hW2
  have HLK:Hid _:=hlk
  have HF:Hid _:=hF
  have HLay:Hid _:=hLay
  clear hW2 hlk hF hLay
  go_wp2
  go_loopw [27] (fun i wr=>∃ j:Nat,j≤N∧i = .int .i64 j∧Hid (WB lay (.slice (some ⟨lb,0,none⟩) N N) (.slice none 0 0) (.slice none 0 0) ⟨List.replicate N 0,List.replicate N 0,List.replicate j (-1)++List.replicate (N-j) 0,List.replicate l.length 0,[],[]⟩ wr)∧Hid (Wk lay w2 wr)) (fun i _=>N-(intOf i).toNat)
  case atStart=>exact⟨0,YN,rfl,by unfold Hid;simpa using HW2.out,Wk.refl _ _⟩
  case round=>
   obtain⟨j,hj,rfl,HWr,HKr⟩:=hrel
   by_cases hlt:j<N
   ·have c3:=HWr.out.blk.cell (j:=3) rfl
    rw [aN] at c3
    obtain⟨z,hz⟩:∃ z,wr.cell? ⟨lay.db,j,none⟩=some z:=⟨_,HWr.out.dep.cell (by rw [YH];show Option.map _ (List.replicate j (-1:Int)++List.replicate (N-j) 0)[j]? = _;rw [YB (by simp;omega)];rfl)⟩
    have fz:=HWr.out.dep.frozen j
    have hS:=HWr.out.setDepth HLay.out j (-1)
    have hk:=HKr.out.set (p:=⟨lay.db,j,none⟩) (.inl (.inr (.inr (.inr (.inl rfl))))) (.int .i64 (-1))
    have HS:Hid _:=hS
    have HK2:Hid _:=hk
    have hjN:(j:Int)<(N:Int):=by omega
    clear hS hk HWr HKr
    go_wp2
    refine⟨⟨j+1,by omega,by go_num,?_,HK2.out⟩,by simp [intOf];omega⟩
    have:=HS.out
    rw [show ({ root:=List.replicate N 0,from_:=List.replicate N 0,depth:=List.replicate j (-1)++List.replicate (N-j) 0,block:=List.replicate l.length 0,path:=[],opn:=[] }:WS).depth.set j (-1)=List.replicate (j+1) (-1)++List.replicate (N-(j+1)) 0 from QoE N j hlt] at this
    exact this
   ·obtain rfl:j=N:=by omega
    have hWf:WB lay (.slice (some ⟨lb,0,none⟩) j j) (.slice none 0 0) (.slice none 0 0) (Qau j l.length) wr:=by
     have:=HWr.out
     rw [Nat.sub_self] at this
     simpa [Qau] using this
    have hxf:¬ lay.five xb:=fun h=>by have:=HF.out xb h;omega
    have z0:=(World.cell?_of_block (a:=⟨xb,0,none⟩) (HKr.out.block xb hxh hxf)).trans y0
    have hC:=QdY j l (List.replicate j (-1))
    have hCb:4*(j+l.length)+4≤1073741823:=by omega
    have hcall:=QgQ j (by omega) lay.wb (fun k V=>∃ pv ov,WB lay (.slice (some ⟨lb,0,none⟩) j j) pv ov ((List.range k).foldl (QaC (QaJ j l) (4*(j+l.length)+4)) (Qau j l.length)) V∧QaD pv ov∧Wk lay w2 V∧OkW j l.length (4*(j+l.length)+4) (QaJ j l) ((List.range k).foldl (QaC (QaJ j l) (4*(j+l.length)+4)) (Qau j l.length))∧((List.range k).foldl (QaC (QaJ j l) (4*(j+l.length)+4)) (Qau j l.length)).path=[]) (fun k V hk hI=>by
     obtain⟨pv,ov,g1,g2,g3,g4,g5⟩:=hI
     have hst:=Qkv lay HLay.out (.slice (some ⟨lb,0,none⟩) j j) pv ov (QaJ j l) (4*(j+l.length)+4) _ k (by rw [aN];exact hk) (by rw [aN];omega) hCb (by rw [aN,aM];exact QfM HR.out) (QhO HR.out) (by rw [aN,aM];exact g4) g5 V g1 g2 (HLK.out.go g3) (by have:=g3.size;omega)
     refine hst.mono ?_
     rintro e V' ⟨rfl,pv',ov',f1,f2,f3,f4,f5⟩
     rw [aN,aM] at f4
     refine⟨rfl,pv',ov',?_,f2,g3.trans f3,?_,?_⟩
     ·rw [List.range_succ,List.foldl_append];exact f1
     ·rw [List.range_succ,List.foldl_append];exact f4
     ·rw [List.range_succ,List.foldl_append];exact f5) wr ⟨_,_,hWf,⟨.inl rfl,.inl rfl⟩,HKr.out,OkW.fresh hC,rfl⟩
    clear hWf HWr HKr hC HW2 y0 b3
    go_wp2_with fail
    refine hcall.mono ?_
    rintro e w6 ⟨rfl,pv,ov,g1,g2,g3,g4,g5⟩
    have HG1:Hid _:=g1
    have HG3:Hid _:=g3
    clear g1 g2 g3 g4 g5 hcall
    go_wp2
    go_ret
    refine⟨lay,_,pv,ov,rfl,aN,aM,HLay.out,HG1.out,HLK.out.go HG3.out,fun k hk=>?_,?_,?_⟩
    ·have:=HF.out k hk;have:=HG3.out.size;omega
    ·have:=HG3.out.size;omega
    ·rw [hxb];exact hb1.trans ((hbx2.mono (by omega)).trans (HG3.out.below (by omega) (fun k hk h=>by have:=HF.out k h;omega)))
 ·exact⟨fun _=>undef,fun _=>0,rfl,fun i hi=>by simp at hi,JW.nil _ _ _ _ _ _,Qaa YD 1⟩
theorem Qjr {W:World}{base:Nat}{v:Value}{xs:List Int}(h:W.ownsRow base 3 1 v xs.length (xs.map (Value.int .i64))):Ints W.heap.size W v xs:=by
 rcases h.2 with ⟨h1,h2⟩ | ⟨g,cap,cur,h1,h2,h3,h4,h5,h6,h7⟩
 ·exact .inl ⟨⟨_,_,h1⟩,List.length_eq_zero_iff.1 h2⟩
 ·subst h1
  refine .inr ⟨g,0,cap,rfl,(Array.getElem?_eq_some_iff.1 h3).1,h4,fun j x hx=>?_⟩
  have hj:=(YE hx).1
  rw [Nat.zero_add,h.cellAt j (by omega),YH,hx]
  rfl
theorem QfY (N:Nat)(l:List Ed)(hR:RightG (N:Int) l)(hLb:Qg8 (walkW N l).root)(hln:(walkW N l).root.length=N)(sv:Value)(w:World)(hl:Edges w.heap.size w sv l):
  Calls Tryz.prog 122 #[.agg #[.int .i64 (N:Int),sv]] w fun r w'=>∃ lv svs h0,r = .returned lv∧Grp h0 lv svs (gath (walkW N l).root (walkW N l).root.length).2 w'∧Below w.heap.size w w'∧w.heap.size≤h0:=by
 have hg1:Grew w (w.alloc (.cells #[.int .i64 (N:Int),sv] 24)):=(Grew.refl w).alloc _
 have hl1:=hl.go hg1.below
 obtain⟨p,c,rfl⟩:=hl.len
 have hrc:=fun W h=>Qbg (N:Int) l (.slice p l.length c) W h
 rw [right_iff.2 hR] at hrc
 have hn1:=hR.n1
 have hm1:=hR.m1
 go_enter Tryz.func122,Tryz.ntmps122
 go_wp2_with fail
 refine (hrc _ hl1).mono ?_
 rintro e w2 ⟨rfl,hg2⟩
 have q0:=(box2 _ hg2).1
 have q1:=(box2 _ hg2).2
 have hbox:=QeP hg2
 have hbw:=(hg1.trans hg2).below
 clear hrc hl1
 go_wp2_with fail
 refine (Qi3 N l hR _ _ (hl.go hbw)).mono ?_
 rintro e w3 ⟨a,lv,pv,ov,rfl,aN,aM,hLay,hW,hLK,hF,hh,hb3⟩
 have b:=hW.blk.cell (j:=1) rfl
 have hI:=hW.root.ints
 rw [hln] at hI
 rw [aN] at b
 have hga:=fun W (hb:Below w3.heap.size w3 W)=>QhZ (walkW N l).root hLb (by rw [hln];omega) _ W (hI.go hb)
 have hbw3:=hbw.trans (hb3.mono hbw.size)
 clear hW hLK hF hI
 go_wp2_with fail
 refine (hga _ YD).mono ?_
 rintro e w4 ⟨lv4,svs,h0,rfl,hG,hb4,hh4⟩
 have HG:Hid _:=hG
 have HB:Hid _:=hbw3.trans (hb4.mono hbw3.size)
 have HH:Hid (w.heap.size≤h0):=Nat.le_trans hbw3.size hh4
 clear hG hb4 hga hh4
 go_wp2
 go_ret
 exact⟨lv4,svs,h0,rfl,HG.out,HB.out,HH.out⟩
theorem QeU (N:Nat)(l:List Ed)(hR:RightG (N:Int) l)(hLb:Qg8 (walkW N l).root)(hln:(walkW N l).root.length=N)(sv:Value)(w:World)(hl:Edges w.heap.size w sv l):
  Calls Tryz.prog 122 #[.agg #[.int .i64 (N:Int),sv]] w fun r w'=>∃ lv svs h0,r = .returned lv∧Grp h0 lv svs (gath (walkW N l).root (walkW N l).root.length).2 w'∧Below w.heap.size w w':=
 (QfY N l hR hLb hln sv w hl).mono fun _ _ ⟨a,b,c,h1,h2,h3,_⟩=>⟨a,b,c,h1,h2,h3⟩
theorem infoE:(Tryz.prog.info? 50).map (fun i=>(i.zero,i.size,i.bytes))=some (some (.agg #[.int .i64 0,.int .i64 0,.int .i64 0]),3,24):=by kernel_rfl
theorem Qaz {w w':World}{base:Nat}{e:TypeId}{size:Nat}{v:Value}{n:Nat}{xs:List Value}(h:w.ownsRow base e size v n xs)(hb:Below w.heap.size w w'):w'.ownsRow base e size v n xs:=by
 refine h.kept (row:=none) (⟨hb.os,hb.tape,hb.output,hb.size,fun k hk _=>hb.block k hk⟩:w.grownBy w' none) ?_
 cases v.ownBlock with
 | none=>exact .inl rfl
 | some k=>exact .inr (by simp)
theorem QcR {W:World}{base:Nat}{e:TypeId}{size:Nat}{v:Value}{n:Nat}{xs:List Value}(h:W.ownsRow base e size v n xs):∃ p c,v = .slice p n c:=by
 rcases h.2 with ⟨rfl,rfl⟩ | ⟨g,cap,cur,rfl,_⟩ <;> exact⟨_,_,rfl⟩
theorem Blk.grown {t:TypeId}{A B:World}{g:Nat}{vs:List Value}{row:Option Nat}(h:Blk t A g vs)(hg:A.grownBy B row)(hne:some g≠row):Blk t B g vs:=(hg.block g h.lt hne).trans h
theorem QfF {W:World}{base:Nat}{e:TypeId}{size:Nat}{v:Value}{n:Nat}{xs:List Value}(h:W.ownsRow base e size v n xs){p:Addr}(hp:p.block<base)(u:Value):(W.setCell p u).ownsRow base e size v n xs:=by
 obtain⟨h1,h2⟩:=h
 refine⟨h1,?_⟩
 rcases h2 with h2 | ⟨g,cap,cur,hv,hb,hg,r⟩
 ·exact .inl h2
 ·exact .inr ⟨g,cap,cur,hv,hb,(Below.heap_setCell _ _ _ _ (by omega)).trans hg,r⟩
end Go.Proofs.YtalflecmadacaaaGreat
