import Derived.Deep.QuietTactic
import Derived.Deep.RegionLaw
import Derived.BigQuiet
import Derived.Deep.RegionHeld3
import Derived.Test.YtalflecmadacaaaGreatZAD
import Derived.Test.YtalflecmadacaaaGreatZAA
import Derived.Test.YtalflecmadacaaaGreatZAC
set_option maxRecDepth 100000
set_option maxHeartbeats 8000000
namespace Go.Proofs.YtalflecmadacaaaGreat
open Go Go.Proofs Go.RowKit
theorem Qnd (a:Lay)(hL:LayOK a)(lv ov:Value)(s:WS)(init:List Stp)(top:Stp)(pb cap v u:Nat)(pl:Int)(hp:s.path=init++[top])(hv:top.v=(v:Int))(hvN:v<a.N)(huN:u<a.N)(hD:s.depth.length=a.N)(hRt:s.root.length=a.N)(hF:s.from_.length=a.N)(hP:s.path.length≤1073741824)(h1:s.depth.getD u 0<0)(h2:0≤s.depth.getD v 0)(h3:s.depth.getD v 0≤1073741824)(w:World)(h:WB a lv (.slice (some ⟨pb,0,none⟩) s.path.length cap) ov s w)(hA:QaD (.slice (some ⟨pb,0,none⟩) s.path.length cap) ov):
  Calls Tryz.prog 118 #[.pointer (some ⟨a.wb,0,none⟩),.pointer (some ⟨pb,init.length*5,none⟩),.agg #[.int .i64 (u:Int),.int .i64 pl]] w fun e w'=>e = .returned (.tuple #[])∧∃ pv',WB a lv pv' ov (lookW s init top ((u:Int),pl)) w'∧QaD pv' ov∧Wk a w w':=by
 have hmix:=mixed
 have hb1:Below w.heap.size w (w.alloc (.cells #[.int .i64 (u:Int),.int .i64 pl] 142)):=YD.alloc YA _
 have hX:Blk 142 (w.alloc (.cells #[.int .i64 (u:Int),.int .i64 pl] 142)) w.heap.size [.int .i64 (u:Int),.int .i64 pl]:=heap_alloc_new w _
 have h':=h.go hb1
 have b3:=h'.blk.cell (j:=3) rfl
 obtain⟨p0,-,-,-,-⟩:=h'.top hp
 rw [hv] at p0
 have x0:=hX.cell (j:=0) rfl
 have hvN':(v:Int)<(a.N:Int):=by omega
 have huN':(u:Int)<(a.N:Int):=by omega
 have hne:v≠u:=fun e=>by subst e;omega
 have t0:(w.alloc (.cells #[.int .i64 (u:Int),.int .i64 pl] 142)).cell? ⟨a.db,v,none⟩=some (.int .i64 (s.depth.getD v 0)):=h'.dep.cell (by rw [YH,YB (by omega)];simp [show v<s.depth.length by omega])
 have t1:(w.alloc (.cells #[.int .i64 (u:Int),.int .i64 pl] 142)).cell? ⟨a.db,u,none⟩=some (.int .i64 (s.depth.getD u 0)):=h'.dep.cell (by rw [YH,YB (by omega)];simp [show u<s.depth.length by omega])
 have HL:Hid (lookW s init top ((u:Int),pl)={ s with root:=s.root.set u (s.root.getD v 0),from_:=s.from_.set u (v:Int),depth:=s.depth.set u (s.depth.getD v 0+1),path:=init++[top]++[⟨(u:Int),pl,0,s.depth.getD v 0,s.opn.length⟩] }):=by
  unfold Hid lookW at_
  simp only [YM,hv]
  rw [if_pos h1]
 generalize hdu:s.depth.getD u 0=du at *
 generalize hdv:s.depth.getD v 0=dv at *
 generalize hrv:s.root.getD v 0=rv at *
 go_enter Tryz.func118,Tryz.ntmps118
 go_wp2
 go_quiet (fail)
 have hbq:Below (w.alloc (.cells #[.int .i64 (u:Int),.int .i64 pl] 142)).heap.size (w.alloc (.cells #[.int .i64 (u:Int),.int .i64 pl] 142)) ((w.alloc (.cells #[.int .i64 (u:Int),.int .i64 pl] 142)).drewN nq):=Qaa YD nq
 have hW:=h'.go hbq
 have hX5:=hX.go hbq
 have hsw:w.heap.size<((w.alloc (.cells #[.int .i64 (u:Int),.int .i64 pl] 142)).drewN nq).heap.size:=hX5.lt
 have hpb:=h.way.lt pb rfl
 have hWk:Wk a w ((w.alloc (.cells #[.int .i64 (u:Int),.int .i64 pl] 142)).drewN nq):=Wk.of_below (n:=w.heap.size) (hb1.trans (hbq.mono (by simp))) (by omega)
 generalize (w.alloc (.cells #[.int .i64 (u:Int),.int .i64 pl] 142)).drewN nq=w5 at hW hX5 hWk hsw ⊢
 clear b3 p0 x0 t0 t1 hb1 hbq h' hX
 have c1:=hW.blk.cell (j:=1) rfl
 have c2:=hW.blk.cell (j:=2) rfl
 have c3:=hW.blk.cell (j:=3) rfl
 have x0:=hX5.cell (j:=0) rfl
 obtain⟨p0,-,-,-,-⟩:=hW.top hp
 rw [hv] at p0
 have r0:w5.cell? ⟨a.rb,v,none⟩=some (.int .i64 rv):=hW.root.cell (by rw [YH,YB (by omega)];simp [← hrv,show v<s.root.length by omega])
 obtain⟨y1,k1⟩:∃ z,w5.cell? ⟨a.rb,u,none⟩=some z:=⟨_,hW.root.cell (by rw [YH,YB (by omega)];rfl)⟩
 obtain⟨y2,k2⟩:∃ z,w5.cell? ⟨a.fb,u,none⟩=some z:=⟨_,hW.frm.cell (by rw [YH,YB (by omega)];rfl)⟩
 obtain⟨y3,k3⟩:∃ z,w5.cell? ⟨a.db,u,none⟩=some z:=⟨_,hW.dep.cell (by rw [YH,YB (by omega)];rfl)⟩
 have f1:=hW.root.frozen u
 have f2:=hW.frm.frozen u
 have f3:=hW.dep.frozen u
 have n1:=hL.wr
 have n2:=hL.wf
 have n3:=hL.wd
 have n4:=hL.rf
 have n5:=hL.rd
 have n6:=hL.fd
 have n7:pb≠a.rb:=by have:=hL.r0;omega
 have n8:pb≠a.fb:=by have:=hL.f0;omega
 have n9:pb≠a.db:=by have:=hL.d0;omega
 have m1:w.heap.size≠a.rb:=by have:=hL.r0;omega
 have m2:w.heap.size≠a.fb:=by have:=hL.f0;omega
 have m3:w.heap.size≠a.db:=by have:=hL.d0;omega
 have hT:=((hW.setRoot hL u rv).setFrom hL u (v:Int)).setDepth hL u (dv+1)
 have hXT:=((hX5.other (p:=⟨a.rb,u,none⟩) m1 (.int .i64 rv)).other (p:=⟨a.fb,u,none⟩) m2 (.int .i64 (v:Int))).other (p:=⟨a.db,u,none⟩) m3 (.int .i64 (dv+1))
 have hWkT:=((hWk.set (p:=⟨a.rb,u,none⟩) (.inl (.inr (.inl rfl))) (.int .i64 rv)).set (p:=⟨a.fb,u,none⟩) (.inl (.inr (.inr (.inl rfl)))) (.int .i64 (v:Int))).set (p:=⟨a.db,u,none⟩) (.inl (.inr (.inr (.inr (.inl rfl))))) (.int .i64 (dv+1))
 have HT:Hid _:=hT
 have HXT:Hid _:=hXT
 have HWk:Hid _:=hWkT
 have HN:Hid (w.heap.size<w5.heap.size):=hsw
 have Hpb:Hid _:=hpb
 have Hp:Hid _:=hp
 have Hlen:Hid (s.path.length=init.length+1):=by unfold Hid;rw [hp];simp
 clear hT hXT hWkT hWk hX5 hW h hsw hpb hp hdu hdv hrv hD hRt hF hv
 have hwr:IntKind.i64.wrap (dv+1)=dv+1:=QaU _ (by omega) (by omega)
 go_wp2
 generalize w.heap.size=xb at *
 generalize init.length*5=off at *
 refine wp_region_held_drew (S:=(fun w':World=>w'.cell? ⟨a.wb,1,none⟩=some (.slice (some ⟨a.rb,0,none⟩) a.N a.N)∧w'.cell? ⟨a.wb,2,none⟩=some (.slice (some ⟨a.fb,0,none⟩) a.N a.N)∧w'.cell? ⟨a.wb,3,none⟩=some (.slice (some ⟨a.db,0,none⟩) a.N a.N)∧w'.cell? ⟨xb,0,none⟩=some (.int .i64 (u:Int))∧w'.cell? ⟨pb,off,none⟩=some (.int .i64 (v:Int))∧w'.cell? ⟨a.rb,v,none⟩=some (.int .i64 rv))) (by kernel_rfl) ?_ (fun hHeld=>?_)
 ·(try dsimp only);go_keep
 refine tH 0 ?_
 try simp only [YS]
 refine tH 1 ?_
 refine tH 2 ?_
 refine tH 3 ?_
 refine tH 4 ?_
 refine tH 5 ?_
 refine tH 6 ?_
 refine tH 7 ?_
 refine tH 8 ?_
 refine tH 9 ?_
 refine tH 10 ?_
 refine tH 11 ?_
 refine tH 12 ?_
 refine tH 13 ?_
 refine tH 14 ?_
 refine tH 15 ?_
 refine tH 16 ?_
 refine tH 17 ?_
 refine tH 18 ?_
 refine tH 19 ?_
 refine tH 20 ?_
 refine tH 21 ?_
 refine tH 22 ?_
 refine tH 23 ?_
 refine tH 24 ?_
 refine tH 25 ?_
 refine tH 26 ?_
 refine tH 27 ?_
 refine tH 28 ?_
 refine tH 29 ?_
 refine tH 30 ?_
 refine tH 31 ?_
 refine tH 32 ?_
 refine tH 33 ?_
 refine wpAnyH_ready (rs:=[34]) (by kernel_rfl) (by simp) ?_
 refine AllReadyH.cons rfl (fun K hK=>?_) AllReadyH.nil
 go_simp
 refine hK.out _ _ ?_ (fun hHeld=>?_)
 ·(try dsimp only);first | (go_keep;done) | ((repeat' apply And.intro) <;> go_simp)
 clear hK K
 try simp only [Act.put,YS,YT,YU]
 refine wpAnyH_ready (rs:=[35]) (by kernel_rfl) (by simp) ?_
 refine AllReadyH.cons rfl (fun K hK=>?_) AllReadyH.nil
 go_simp
 refine hK.out _ _ ?_ (fun hHeld=>?_)
 ·(try dsimp only);first | (go_keep;done) | ((repeat' apply And.intro) <;> go_simp)
 clear hK K
 try simp only [Act.put,YS,YT,YU]
 refine wpAnyH_ready (rs:=[36]) (by kernel_rfl) (by simp) ?_
 refine AllReadyH.cons rfl (fun K hK=>?_) AllReadyH.nil
 go_simp
 refine hK.out _ _ ?_ (fun hHeld=>?_)
 ·(try dsimp only);first | (go_keep;done) | ((repeat' apply And.intro) <;> go_simp)
 clear hK K
 try simp only [Act.put,YS,YT,YU]
 refine wpAnyH_ready (rs:=[37]) (by kernel_rfl) (by simp) ?_
 refine AllReadyH.cons rfl (fun K hK=>?_) AllReadyH.nil
 go_simp
 refine hK.out _ _ ?_ (fun hHeld=>?_)
 ·(try dsimp only);first | (go_keep;done) | ((repeat' apply And.intro) <;> go_simp)
 clear hK K
 try simp only [Act.put,YS,YT,YU]
 refine wpAnyH_ready (rs:=[38]) (by kernel_rfl) (by simp) ?_
 refine AllReadyH.cons rfl (fun K hK=>?_) AllReadyH.nil
 go_simp
 refine hK.out _ _ ?_ (fun hHeld=>?_)
 ·(try dsimp only);first | (go_keep;done) | ((repeat' apply And.intro) <;> go_simp)
 clear hK K
 try simp only [Act.put,YS,YT,YU]
 refine wpAnyH_ready (rs:=[39]) (by kernel_rfl) (by simp) ?_
 refine AllReadyH.cons rfl (fun K hK=>?_) AllReadyH.nil
 go_simp
 refine hK.out _ _ ?_ (fun hHeld=>?_)
 ·(try dsimp only);first | (go_keep;done) | ((repeat' apply And.intro) <;> go_simp)
 clear hK K
 try simp only [Act.put,YS,YT,YU]
 refine wpAnyH_done (by kernel_rfl) ?_ _
 have hW6:=HT.out.go (B:=(((w5.setCell ⟨a.rb,u,none⟩ (.int .i64 rv)).setCell ⟨a.fb,u,none⟩ (.int .i64 (v:Int))).setCell ⟨a.db,u,none⟩ (.int .i64 (dv+1))).drew) (Qaa YD 1)
 have hX6:Blk 142 (((w5.setCell ⟨a.rb,u,none⟩ (.int .i64 rv)).setCell ⟨a.fb,u,none⟩ (.int .i64 (v:Int))).setCell ⟨a.db,u,none⟩ (.int .i64 (dv+1))).drew xb [.int .i64 (u:Int),.int .i64 pl]:=HXT.out
 have hk6:Wk a w (((w5.setCell ⟨a.rb,u,none⟩ (.int .i64 rv)).setCell ⟨a.fb,u,none⟩ (.int .i64 (v:Int))).setCell ⟨a.db,u,none⟩ (.int .i64 (dv+1))).drew:=⟨HWk.out.os,HWk.out.tape,HWk.out.output,HWk.out.size,HWk.out.block⟩
 have hs6:xb<(((w5.setCell ⟨a.rb,u,none⟩ (.int .i64 rv)).setCell ⟨a.fb,u,none⟩ (.int .i64 (v:Int))).setCell ⟨a.db,u,none⟩ (.int .i64 (dv+1))).drew.heap.size:=hX6.lt
 generalize (((w5.setCell ⟨a.rb,u,none⟩ (.int .i64 rv)).setCell ⟨a.fb,u,none⟩ (.int .i64 (v:Int))).setCell ⟨a.db,u,none⟩ (.int .i64 (dv+1))).drew=w6 at hW6 hX6 hk6 hs6 ⊢
 clear HT HXT HWk hHeld c1 c2 c3 x0 p0 r0 k1 k2 k3 f1 f2 f3 n1 n2 n3 n4 n5 n6 n7 n8 n9 m1 m2 m3 HN
 have hxne:xb≠a.wb:=by have:=Hpb.out;have:=hL.w0;omega
 have b5:=hW6.blk.cell (j:=5) rfl
 have b6:=hW6.blk.cell (j:=6) rfl
 have x0:=hX6.cell (j:=0) rfl
 have x1:=hX6.cell (j:=1) rfl
 obtain⟨po,co,rfl⟩:=Qaf hW6.opn
 obtain⟨i0,hi,hz0,hz1,hz2⟩:=info_parts Qoa
 have hnw:=news_step' w6.drew (.int .i64 (u:Int)) (.int .i64 pl) (.int .i64 0) (.int .i64 dv) (.int .i64 (s.opn.length:Int)) rfl rfl rfl rfl rfl
 have hb7:Below w6.heap.size w6 (w6.drew.alloc (.cells #[.int .i64 (u:Int),.int .i64 pl,.int .i64 0,.int .i64 dv,.int .i64 (s.opn.length:Int)] 144)):=(Qaa YD 1).alloc YA _
 have hW7:=hW6.go hb7
 have hown:=hW7.way
 have hs7:a.h0≤(w6.drew.alloc (.cells #[.int .i64 (u:Int),.int .i64 pl,.int .i64 0,.int .i64 dv,.int .i64 (s.opn.length:Int)] 144)).heap.size:=by
  have:=hb7.size;have:=Hpb.out;omega
 have fin:∀ (v8:Value) (w8:World),w8.ownsRow a.h0 144 5 v8 (s.path.length+1) (flatP s.path++[.int .i64 (u:Int),.int .i64 pl,.int .i64 0,.int .i64 dv,.int .i64 (s.opn.length:Int)])→(w6.drew.alloc (.cells #[.int .i64 (u:Int),.int .i64 pl,.int .i64 0,.int .i64 dv,.int .i64 (s.opn.length:Int)] 144)).grownBy w8 (Value.slice (some ⟨pb,0,none⟩) s.path.length cap).ownBlock→(v8.ownBlock=(Value.slice (some ⟨pb,0,none⟩) s.path.length cap).ownBlock∨v8.ownBlock=some (w6.drew.alloc (.cells #[.int .i64 (u:Int),.int .i64 pl,.int .i64 0,.int .i64 dv,.int .i64 (s.opn.length:Int)] 144)).heap.size)→(∃ pv',WB a lv pv' (.slice po s.opn.length co) (lookW s init top ((u:Int),pl)) (w8.setCell ⟨a.wb,5,none⟩ v8)∧QaD pv' (.slice po s.opn.length co)∧Wk a w (w8.setCell ⟨a.wb,5,none⟩ v8))∧(w8.cell? ⟨a.wb,5,none⟩=some (.slice (some ⟨pb,0,none⟩) s.path.length cap)∧w8.cell? ⟨a.wb,6,none⟩=some (.slice po s.opn.length co)∧w8.cell? ⟨xb,0,none⟩=some (.int .i64 (u:Int))∧w8.cell? ⟨xb,1,none⟩=some (.int .i64 pl))∧w8.frozen? ⟨a.wb,5,none⟩=false:=fun v8 w8 ho hg hat=>by
  have hlow:∀ k,(Value.slice (some ⟨pb,0,none⟩) s.path.length cap).ownBlock=some k→a.h0≤k:=fun k e=>(hW7.way.lt k e).1
  have hS:=hW7.setPth (P:=s.path++[⟨(u:Int),pl,0,dv,s.opn.length⟩]) hL hA hg hlow (by rw [YI,Qa7];exact ho)
  have hb8:Blk 97 w8 a.wb (QiU a lv (.slice (some ⟨pb,0,none⟩) s.path.length cap) (.slice po s.opn.length co)):=(hg.block a.wb hW7.blk.lt (fun e=>by have:=hlow a.wb e.symm;have:=hL.w0;omega)).trans hW7.blk
  have hX7:=hX6.go hb7
  have hX8:Blk 142 w8 xb [.int .i64 (u:Int),.int .i64 pl]:=(hg.block xb hX7.lt (fun e=>by have h1:some xb=some pb:=e;have:=Hpb.out;simp at h1;omega)).trans hX7
  refine⟨⟨v8,?_,Qcv hA hat (fun k e=>(hW7.opn.lt k e).2),((hk6.trans (Wk.of_below hb7 (by have:=Hpb.out;omega))).trans (Wk.grown hg hs7 hlow)).set (p:=⟨a.wb,5,none⟩) (.inl (.inl rfl)) _⟩,⟨hb8.cell (j:=5) rfl,hb8.cell (j:=6) rfl,hX8.cell (j:=0) rfl,hX8.cell (j:=1) rfl⟩,hb8.frozen 5⟩
  rw [HL.out,← Hp.out]
  exact hS
 have Hfin:Hid _:=fin
 have Hown:Hid _:=hown
 have Hnw:Hid _:=hnw
 have Hs7:Hid _:=hs7
 clear fin hW6 hW7 hb7 hX6 hk6 hown hnw hs7
 go_wp2
 refine Qai (S:=(fun w':World=>w'.cell? ⟨a.wb,5,none⟩=some (.slice (some ⟨pb,0,none⟩) s.path.length cap)∧w'.cell? ⟨a.wb,6,none⟩=some (.slice po s.opn.length co)∧w'.cell? ⟨xb,0,none⟩=some (.int .i64 (u:Int))∧w'.cell? ⟨xb,1,none⟩=some (.int .i64 pl))) (by kernel_rfl) ?_ (fun hHeld=>?_)
 ·(try dsimp only);go_keep
 refine tL 0 ?_
 try simp only [YS]
 refine tL 1 ?_
 refine tL 2 ?_
 refine tL 3 ?_
 refine tL 4 ?_
 refine tL 5 ?_
 refine tL 6 ?_
 refine tL 7 ?_
 refine tL 8 ?_
 refine tL 9 ?_
 refine tL 10 ?_
 refine tL 11 ?_
 refine tL 12 ?_
 refine tL 13 ?_
 refine tL 14 ?_
 refine tL 15 ?_
 refine Qac (rs:=[16]) (by kernel_rfl) (by simp) ?_
 refine AllReadyL.cons rfl (fun K hK=>?_) AllReadyL.nil
 go_simp
 refine hK.out _ _ ?_ (fun hHeld=>?_)
 ·(try dsimp only);first | (go_keep;done) | ((repeat' apply And.intro) <;> go_simp)
 clear hK K
 try simp only [Act.put,YS,YT,YU]
 refine Qac (rs:=[17]) (by kernel_rfl) (by simp) ?_
 refine AllReadyL.cons rfl (fun K hK=>?_) AllReadyL.nil
 refine Qap rfl _ _ 95 rfl a.h0 144 i0 (.agg #[.int .i64 0,.int .i64 0,.int .i64 0,.int .i64 0,.int .i64 0]) 5 40 Tryz.underlying95 hi hz0 hz1 hz2 rfl (by decide) (.slice (some ⟨pb,0,none⟩) s.path.length cap) s.path.length (flatP s.path) rfl Hown.out (.slice (some ⟨_,0,none⟩) 1 1) 1 [.int .i64 (u:Int),.int .i64 pl,.int .i64 0,.int .i64 dv,.int .i64 (s.opn.length:Int)] rfl Hnw.out (by unfold maxLen;omega) (by omega) Hs7.out ?_
 intro v8 w8 ho8 hg8 hat8
 obtain⟨a8,m8,k8,rfl⟩:=Qar ho8
 obtain⟨z1,z2,z3⟩:=Hfin.out _ _ ho8 hg8 hat8
 refine hK.out _ _ z2 (fun hHeld=>?_)
 clear hK K ho8 hg8 hat8
 obtain⟨z4,-,-,-⟩:=z2
 try simp only [Act.put,YS]
 refine tL 18 ?_
 refine tL 19 ?_
 refine Qac (rs:=[20]) (by kernel_rfl) (by simp) ?_
 refine AllReadyL.last rfl (by kernel_rfl) (fun K hK=>?_)
 go_simp
 refine hK.out _ _ ?_
 clear hK K
 try simp only [Act.put,YS,YT,YU]
 refine Qak (by kernel_rfl) ?_ _
 go_wp2
 refine bodyPost_end (results_none rfl _ _ _) rfl ?_
 exact⟨rfl,z1⟩
theorem QiF (W:World)(y:Int):Src (W.alloc (.cells #[.int .i64 y] 3)).drew (.slice (some ⟨W.heap.size,0,none⟩) 1 1) 1 1 [.int .i64 y]:=
 .inr ⟨⟨W.heap.size,0,none⟩,1,rfl,rfl,fun j u hu=>Qbc W (.int .i64 y) 3 j u hu,fun u hu=>by rw [YF hu];rfl⟩
theorem Qlt (a:Lay)(hL:LayOK a)(lv ov:Value)(s:WS)(init:List Stp)(top:Stp)(pb cap v u:Nat)(pl:Int)(hp:s.path=init++[top])(hv:top.v=(v:Int))(hvN:v<a.N)(huN:u<a.N)(hD:s.depth.length=a.N)(hO:s.opn.length≤1073741824)(h1:0≤s.depth.getD u 0)(h2:s.depth.getD u 0<s.depth.getD v 0)(w:World)(h:WB a lv (.slice (some ⟨pb,0,none⟩) s.path.length cap) ov s w)(hA:QaD (.slice (some ⟨pb,0,none⟩) s.path.length cap) ov):
  Calls Tryz.prog 118 #[.pointer (some ⟨a.wb,0,none⟩),.pointer (some ⟨pb,init.length*5,none⟩),.agg #[.int .i64 (u:Int),.int .i64 pl]] w fun e w'=>e = .returned (.tuple #[])∧∃ ov',WB a lv (.slice (some ⟨pb,0,none⟩) s.path.length cap) ov' (lookW s init top ((u:Int),pl)) w'∧QaD (.slice (some ⟨pb,0,none⟩) s.path.length cap) ov'∧Wk a w w':=by
 have hmix:=mixed
 have HL:Hid (lookW s init top ((u:Int),pl)={ s with path:=init++[{ top with low:=min top.low (s.depth.getD u 0) }],opn:=s.opn++[pl] }):=by
  unfold Hid lookW at_
  simp only [YM,hv]
  rw [if_neg (by omega),if_pos h2]
 have hb1:Below w.heap.size w (w.alloc (.cells #[.int .i64 (u:Int),.int .i64 pl] 142)):=YD.alloc YA _
 have hX:Blk 142 (w.alloc (.cells #[.int .i64 (u:Int),.int .i64 pl] 142)) w.heap.size [.int .i64 (u:Int),.int .i64 pl]:=heap_alloc_new w _
 have h':=h.go hb1
 have b3:=h'.blk.cell (j:=3) rfl
 obtain⟨p0,-,-,p3,-⟩:=h'.top hp
 rw [hv] at p0
 have x0:=hX.cell (j:=0) rfl
 have hvN':(v:Int)<(a.N:Int):=by omega
 have huN':(u:Int)<(a.N:Int):=by omega
 have t0:(w.alloc (.cells #[.int .i64 (u:Int),.int .i64 pl] 142)).cell? ⟨a.db,v,none⟩=some (.int .i64 (s.depth.getD v 0)):=h'.dep.cell (by rw [YH,YB (by omega)];simp [show v<s.depth.length by omega])
 have t1:(w.alloc (.cells #[.int .i64 (u:Int),.int .i64 pl] 142)).cell? ⟨a.db,u,none⟩=some (.int .i64 (s.depth.getD u 0)):=h'.dep.cell (by rw [YH,YB (by omega)];simp [show u<s.depth.length by omega])
 generalize s.depth.getD u 0=du at *
 generalize s.depth.getD v 0=dv at *
 have h1':¬ du<0:=by omega
 go_enter Tryz.func118,Tryz.ntmps118
 go_wp2
 go_quiet (fail)
 have hbq:Below (w.alloc (.cells #[.int .i64 (u:Int),.int .i64 pl] 142)).heap.size (w.alloc (.cells #[.int .i64 (u:Int),.int .i64 pl] 142)) ((w.alloc (.cells #[.int .i64 (u:Int),.int .i64 pl] 142)).drewN nq):=Qaa YD nq
 have hW:=h'.go hbq
 have hX5:=hX.go hbq
 have hpb0:=h.way.lt pb rfl
 have hWk:Wk a w ((w.alloc (.cells #[.int .i64 (u:Int),.int .i64 pl] 142)).drewN nq):=Wk.of_below (n:=w.heap.size) (hb1.trans (hbq.mono (by simp))) (by omega)
 generalize (w.alloc (.cells #[.int .i64 (u:Int),.int .i64 pl] 142)).drewN nq=w5 at hW hX5 hWk ⊢
 obtain⟨-,-,-,y3,-⟩:=hW.top hp
 have fr:=hW.way.frozenAt (init.length*5+3)
 obtain⟨po,co,rfl⟩:=Qaf hW.opn
 obtain⟨i0,hi,hz0,hz1,hz2⟩:=info_parts infoI
 have hpb:=hW.way.lt pb rfl
 have hne:w.heap.size≠pb:=by have:=(h.way.lt pb rfl).2;omega
 have tail:∀ m:Int,m=min top.low du→WB a lv (.slice (some ⟨pb,0,none⟩) s.path.length cap) (.slice po s.opn.length co) { s with path:=init++[{ top with low:=m }] } (w5.setCell ⟨pb,init.length*5+3,none⟩ (.int .i64 m)):=fun m _=>by
  have h1:=hW.setWay hL hA (j:=init.length*5+3) (u:=.int .i64 m) (P:=init++[{ top with low:=m }]) (by rw [hp];exact QgU init top m) (by rw [hp];simp)
  have el:(init++[{ top with low:=m }]:List Stp).length=s.path.length:=by rw [hp];simp
  rw [el] at h1
  exact h1
 have fin:∀ (m:Int) (v8:Value) (w8:World),m=min top.low du→w8.ownsRow a.h0 3 1 v8 (s.opn.length+1) (s.opn.map (Value.int .i64)++[.int .i64 pl])→((w5.setCell ⟨pb,init.length*5+3,none⟩ (.int .i64 m)).alloc (.cells #[.int .i64 pl] 3)).drew.grownBy w8 (Value.slice po s.opn.length co).ownBlock→(v8.ownBlock=(Value.slice po s.opn.length co).ownBlock∨v8.ownBlock=some ((w5.setCell ⟨pb,init.length*5+3,none⟩ (.int .i64 m)).alloc (.cells #[.int .i64 pl] 3)).drew.heap.size)→(∃ ov',WB a lv (.slice (some ⟨pb,0,none⟩) s.path.length cap) ov' (lookW s init top ((u:Int),pl)) (w8.setCell ⟨a.wb,6,none⟩ v8)∧QaD (.slice (some ⟨pb,0,none⟩) s.path.length cap) ov'∧Wk a w (w8.setCell ⟨a.wb,6,none⟩ v8))∧w8.cell? ⟨a.wb,6,none⟩=some (.slice po s.opn.length co)∧w8.frozen? ⟨a.wb,6,none⟩=false:=fun m v8 w8 hm ho hg hat=>by
  have hT:=(tail m hm).go (B:=((w5.setCell ⟨pb,init.length*5+3,none⟩ (.int .i64 m)).alloc (.cells #[.int .i64 pl] 3)).drew) (Qaa (YD.alloc YA _) 1)
  have hlow:∀ k,(Value.slice po s.opn.length co).ownBlock=some k→a.h0≤k:=fun k e=>(hW.opn.lt k e).1
  have hS:=hT.setOpn (P:=s.opn++[pl]) hL hA hg hlow (by rw [YI,List.map_append];exact ho)
  have hb8:Blk 97 w8 a.wb (QiU a lv (.slice (some ⟨pb,0,none⟩) s.path.length cap) (.slice po s.opn.length co)):=(hg.block a.wb hT.blk.lt (fun e=>by have:=hlow a.wb e.symm;have:=hL.w0;omega)).trans hT.blk
  have hk8:=(((hWk.set (p:=⟨pb,init.length*5+3,none⟩) (.inr (by have:=hpb0;simp only;omega)) (.int .i64 m)).trans (Wk.of_below (n:=w5.heap.size) (Qaa ((Below.refl (w5.setCell ⟨pb,init.length*5+3,none⟩ (.int .i64 m)).heap.size _).alloc YA (.cells #[.int .i64 pl] 3)) 1 |>.mono (by simp)) (by omega))).trans (Wk.grown hg (by show a.h0≤(World.alloc _ _).heap.size;simp;omega) hlow)).set (p:=⟨a.wb,6,none⟩) (.inl (.inl rfl)) v8
  refine⟨⟨v8,?_,Qfq (Qcv (Qfq hA) hat (fun k e=>(hT.way.lt k e).2)),hk8⟩,hb8.cell (j:=6) rfl,hb8.frozen 6⟩
  rw [HL.out,← hm]
  exact hS
 have b6:∀ m:Int,(w5.setCell ⟨pb,init.length*5+3,none⟩ (.int .i64 m)).cell? ⟨a.wb,6,none⟩=some (.slice po s.opn.length co):=fun m=>(hW.blk.other (p:=⟨pb,init.length*5+3,none⟩) (by have:=hL.w0;simp only;omega) (.int .i64 m)).cell (j:=6) rfl
 have b7:∀ m:Int,((w5.setCell ⟨pb,init.length*5+3,none⟩ (.int .i64 m)).alloc (.cells #[.int .i64 pl] 3)).cell? ⟨a.wb,6,none⟩=some (.slice po s.opn.length co):=fun m=>((hW.blk.other (p:=⟨pb,init.length*5+3,none⟩) (by have:=hL.w0;simp only;omega) (.int .i64 m)).go (YD.alloc YA _)).cell (j:=6) rfl
 have hs5:∀ m:Int,(w5.setCell ⟨pb,init.length*5+3,none⟩ (.int .i64 m)).heap.size=w5.heap.size:=fun m=>by simp
 have x1:∀ m:Int,(w5.setCell ⟨pb,init.length*5+3,none⟩ (.int .i64 m)).cell? ⟨w.heap.size,1,none⟩=some (.int .i64 pl):=fun m=>(hX5.other (p:=⟨pb,init.length*5+3,none⟩) hne (.int .i64 m)).cell (j:=1) rfl
 have hownA:∀ m:Int,m=min top.low du→((w5.setCell ⟨pb,init.length*5+3,none⟩ (.int .i64 m)).alloc (.cells #[.int .i64 pl] 3)).drew.ownsRow a.h0 3 1 (.slice po s.opn.length co) s.opn.length (s.opn.map (Value.int .i64)):=fun m hm=>((tail m hm).go (B:=((w5.setCell ⟨pb,init.length*5+3,none⟩ (.int .i64 m)).alloc (.cells #[.int .i64 pl] 3)).drew) (Qaa (YD.alloc YA _) 1)).opn
 have hsz:∀ m:Int,a.h0≤((w5.setCell ⟨pb,init.length*5+3,none⟩ (.int .i64 m)).alloc (.cells #[.int .i64 pl] 3)).drew.heap.size:=fun m=>by
  show a.h0≤((w5.setCell ⟨pb,init.length*5+3,none⟩ (.int .i64 m)).alloc (.cells #[.int .i64 pl] 3)).heap.size
  simp
  omega
 have Hfin:Hid _:=fin
 have HownA:Hid _:=hownA
 clear b3 p0 p3 x0 t0 t1 h' hX hb1 hbq tail fin hownA
 by_cases hm:du<top.low
 ·have b6':=b6 du
  have x1':=x1 du
  have hO1:=HownA.out du (by omega)
  have hs1:=QiF (w5.setCell ⟨pb,init.length*5+3,none⟩ (.int .i64 du)) pl
  rw [hs5] at hs1
  have b7':=b7 du
  have hsz1:=hsz du
  clear b6 x1 hsz b7 hs5
  go_wp2
  go_region_law (refine Qap rfl _ _ 27 rfl a.h0 3 i0 (.int .i64 0) 1 8 Tryz.underlying27 hi hz0 hz1 hz2 rfl (by decide) (.slice po s.opn.length co) s.opn.length (s.opn.map (Value.int .i64)) rfl hO1 (.slice (some ⟨_,0,none⟩) 1 1) 1 [.int .i64 pl] rfl hs1 (by unfold maxLen;omega) (by omega) hsz1 ?_;intro v8 w8 ho8 hg8 hat8;obtain⟨a8,m8,k8,rfl⟩:=Qar ho8;obtain⟨z1,z2,z3⟩:=Hfin.out du _ _ (by omega) ho8 hg8 hat8)
  all_goals go_wp2
  all_goals refine bodyPost_end (results_none rfl _ _ _) rfl ?_
  all_goals exact⟨rfl,z1⟩
 ·have b6':=b6 top.low
  have x1':=x1 top.low
  have hO1:=HownA.out top.low (by omega)
  have hs1:=QiF (w5.setCell ⟨pb,init.length*5+3,none⟩ (.int .i64 top.low)) pl
  rw [hs5] at hs1
  have b7':=b7 top.low
  have hsz1:=hsz top.low
  clear b6 x1 hsz b7 hs5
  go_wp2
  go_region_law (refine Qap rfl _ _ 27 rfl a.h0 3 i0 (.int .i64 0) 1 8 Tryz.underlying27 hi hz0 hz1 hz2 rfl (by decide) (.slice po s.opn.length co) s.opn.length (s.opn.map (Value.int .i64)) rfl hO1 (.slice (some ⟨_,0,none⟩) 1 1) 1 [.int .i64 pl] rfl hs1 (by unfold maxLen;omega) (by omega) hsz1 ?_;intro v8 w8 ho8 hg8 hat8;obtain⟨a8,m8,k8,rfl⟩:=Qar ho8;obtain⟨z1,z2,z3⟩:=Hfin.out top.low _ _ (by omega) ho8 hg8 hat8)
  all_goals go_wp2
  all_goals refine bodyPost_end (results_none rfl _ _ _) rfl ?_
  all_goals exact⟨rfl,z1⟩
theorem Qne (a:Lay)(hL:LayOK a)(lv ov:Value)(s:WS)(init:List Stp)(top:Stp)(pb cap v u:Nat)(pl:Int)(hp:s.path=init++[top])(hv:top.v=(v:Int))(hvN:v<a.N)(huN:u<a.N)(hN:a.N≤1048576)(hD:s.depth.length=a.N)(hRt:s.root.length=a.N)(hF:s.from_.length=a.N)(hP:s.path.length≤1073741824)(hO:s.opn.length≤1073741824)(h2:0≤s.depth.getD v 0)(h3:s.depth.getD v 0≤1073741824)(w:World)(h:WB a lv (.slice (some ⟨pb,0,none⟩) s.path.length cap) ov s w)(hA:QaD (.slice (some ⟨pb,0,none⟩) s.path.length cap) ov):
  Calls Tryz.prog 118 #[.pointer (some ⟨a.wb,0,none⟩),.pointer (some ⟨pb,init.length*5,none⟩),.agg #[.int .i64 (u:Int),.int .i64 pl]] w fun e w'=>e = .returned (.tuple #[])∧∃ pv' ov',WB a lv pv' ov' (lookW s init top ((u:Int),pl)) w'∧QaD pv' ov'∧Wk a w w':=by
 by_cases h1:s.depth.getD u 0<0
 ·refine (Qnd a hL lv ov s init top pb cap v u pl hp hv hvN huN hD hRt hF hP h1 h2 h3 w h hA).mono ?_
  rintro e w' ⟨rfl,pv',g1,g2,g3⟩
  exact⟨rfl,pv',ov,g1,g2,g3⟩
 ·by_cases h4:s.depth.getD u 0<s.depth.getD v 0
  ·refine (Qlt a hL lv ov s init top pb cap v u pl hp hv hvN huN hD hO (by omega) h4 w h hA).mono ?_
   rintro e w' ⟨rfl,ov',g1,g2,g3⟩
   exact⟨rfl,_,ov',g1,g2,g3⟩
  ·refine (Qls a lv ov s init top pb cap v u pl hp hv hvN huN hN hD (by omega) (by omega) w h).mono ?_
   rintro e w' ⟨rfl,hb⟩
   have hpb:=h.way.lt pb rfl
   have HE:lookW s init top ((u:Int),pl)=s:=by
    unfold lookW at_
    simp only [YM,hv]
    rw [if_neg h1,if_neg h4,← hp]
   refine⟨rfl,_,_,?_,hA,Wk.of_below hb (by omega)⟩
   rw [HE]
   exact h.go hb
def Adj (es:List Ed)(u v:Nat):Prop:=∃ e∈es,(e.1.toNat=u∧e.2.1.toNat=v)∨(e.1.toNat=v∧e.2.1.toNat=u)
theorem Adj.symm {es:List Ed}{u v:Nat}(h:Adj es u v):Adj es v u:=by
 obtain⟨e,he,h⟩:=h
 exact⟨e,he,h.symm⟩
def WayN (es:List Ed):Nat→List Nat→Nat→Prop
 | a,[],c=>a=c
 | a,b :: l,c=>Adj es a b∧WayN es b l c
def Conn (es:List Ed)(a c:Nat):Prop:=∃ l,WayN es a l c
theorem Conn.refl {es:List Ed}(v:Nat):Conn es v v:=⟨[],rfl⟩
theorem Conn.step {es:List Ed}{a b c:Nat}(h:Adj es a b)(h':Conn es b c):Conn es a c:=by
 obtain⟨l,hl⟩:=h'
 exact⟨b :: l,h,hl⟩
theorem Conn.ind {es:List Ed}{motive:(a c:Nat)→Conn es a c→Prop}(refl:∀ v,motive v v (Conn.refl v))(step:∀ {a b c:Nat} (h1:Adj es a b) (h2:Conn es b c),motive b c h2→motive a c (Conn.step h1 h2)):∀ {a c:Nat} (h:Conn es a c),motive a c h:=by
 have key:∀ (l:List Nat) (a c:Nat) (hl:WayN es a l c),motive a c ⟨l,hl⟩:=by
  intro l
  induction l with
  | nil=>
   intro a c hl
   have e:a=c:=hl
   subst e
   exact refl a
  | cons b l ih=>
   intro a c hl
   exact step hl.1 ⟨l,hl.2⟩ (ih b c hl.2)
 intro a c h
 obtain⟨l,hl⟩:=h
 exact key l a c hl
theorem Conn.trans {es:List Ed}{a b c:Nat}(h:Conn es a b)(h':Conn es b c):Conn es a c:=by
 induction h using Conn.ind with
 | refl=>exact h'
 | step h1 _ ih=>exact .step h1 (ih h')
theorem Conn.one {es:List Ed}{a b:Nat}(h:Adj es a b):Conn es a b:=.step h (.refl _)
theorem Conn.symm {es:List Ed}{a b:Nat}(h:Conn es a b):Conn es b a:=by
 induction h using Conn.ind with
 | refl=>exact .refl _
 | step h1 _ ih=>exact ih.trans (.one h1.symm)
def Ends (N:Nat)(es:List Ed):Prop:=∀ e∈es,e.1.toNat<N∧e.2.1.toNat<N
theorem Qei {L:List Int}{e:Ed}(h1:e.1.toNat<L.length)(h2:e.2.1.toNat<L.length)(v:Nat):(relax L e).getD v 0=if v=e.1.toNat∨v=e.2.1.toNat then min (L.getD e.1.toNat 0) (L.getD e.2.1.toNat 0) else L.getD v 0:=by
 unfold relax
 rw [YC,List.getElem?_set]
 by_cases hv2:e.2.1.toNat=v
 ·subst hv2
  rw [if_pos rfl,if_pos (by simpa using h2),if_pos (.inr rfl)]
  rfl
 ·rw [if_neg hv2,List.getElem?_set]
  by_cases hv1:e.1.toNat=v
  ·subst hv1
   rw [if_pos rfl,if_pos h1,if_pos (.inl rfl)]
   rfl
  ·rw [if_neg hv1,if_neg (by omega),YC]
theorem Qit {L:List Int}{e:Ed}(h1:e.1.toNat<L.length)(h2:e.2.1.toNat<L.length)(v:Nat):(relax L e).getD v 0≤L.getD v 0:=by
 rw [Qei h1 h2]
 split
 ·rename_i h
  rcases h with rfl | rfl
  ·exact Int.min_le_left _ _
  ·exact Int.min_le_right _ _
 ·exact Int.le_refl _
theorem Qh0 {N:Nat}:∀ {es:List Ed} {L:List Int},Ends N es→L.length=N→∀ v,(es.foldl relax L).getD v 0≤L.getD v 0
 | [],_,_,_,_=>Int.le_refl _
 | e :: es,L,h,hl,v=>by
  obtain⟨h1,h2⟩:=h e (List.mem_cons_self ..)
  have ih:=Qh0 (es:=es) (L:=relax L e) (fun x hx=>h x (List.mem_cons_of_mem _ hx)) (by rw [QcL,hl]) v
  rw [List.foldl_cons]
  exact Int.le_trans ih (Qit (by omega) (by omega) v)
theorem QiN {N:Nat}:∀ {es:List Ed} {L:List Int},Ends N es→L.length=N→∀ {u v:Nat},Adj es u v→(es.foldl relax L).getD u 0≤L.getD v 0
 | [],_,_,_,u,v,h=>by obtain⟨e,he,_⟩:=h;simp at he
 | e :: es,L,h,hl,u,v,ha=>by
  obtain⟨h1,h2⟩:=h e (List.mem_cons_self ..)
  have hE:Ends N es:=fun x hx=>h x (List.mem_cons_of_mem _ hx)
  have hl':(relax L e).length=N:=by rw [QcL,hl]
  rw [List.foldl_cons]
  obtain⟨d,hd,hends⟩:=ha
  rcases List.mem_cons.1 hd with rfl | hd
  ·have hle:=Qh0 hE hl' u
   have hr:=Qei (L:=L) (e:=d) (by omega) (by omega) u
   rcases hends with ⟨rfl,rfl⟩ | ⟨rfl,rfl⟩
   ·rw [if_pos (.inl rfl)] at hr
    have:=Int.min_le_right (L.getD d.1.toNat 0) (L.getD d.2.1.toNat 0)
    omega
   ·rw [if_pos (.inr rfl)] at hr
    have:=Int.min_le_left (L.getD d.1.toNat 0) (L.getD d.2.1.toNat 0)
    omega
  ·have ih:=QiN (es:=es) (L:=relax L e) hE hl' (u:=u) (v:=v) ⟨d,hd,hends⟩
   have:=Qit (L:=L) (e:=e) (by omega) (by omega) v
   omega
def Sound (N:Nat)(es:List Ed)(L:List Int):Prop:=∀ v,v<N→∃ x:Nat,L.getD v 0=(x:Int)∧x<N∧Conn es v x
theorem Qhy {N:Nat}{es:List Ed}{L:List Int}{e:Ed}(hl:L.length=N)(hE:Ends N es)(he:e∈es)(h:Sound N es L):Sound N es (relax L e):=by
 intro v hv
 obtain⟨h1,h2⟩:=hE e he
 rw [Qei (by omega) (by omega)]
 split
 ·rename_i hv'
  obtain⟨x,hx,hxN,hxc⟩:=h _ h1
  obtain⟨y,hy,hyN,hyc⟩:=h _ h2
  have hadj:Adj es e.1.toNat e.2.1.toNat:=⟨e,he,.inl ⟨rfl,rfl⟩⟩
  rw [hx,hy]
  by_cases hxy:(x:Int)≤(y:Int)
  ·rw [Int.min_eq_left hxy]
   refine⟨x,rfl,hxN,?_⟩
   rcases hv' with rfl | rfl
   ·exact hxc
   ·exact .step hadj.symm hxc
  ·rw [Int.min_eq_right (by omega)]
   refine⟨y,rfl,hyN,?_⟩
   rcases hv' with rfl | rfl
   ·exact .step hadj hyc
   ·exact hyc
 ·exact h v hv
theorem Qfi {N:Nat}{es:List Ed}(hE:Ends N es):∀ {ds:List Ed} {L:List Int},(∀ e∈ds,e∈es)→L.length=N→Sound N es L→Sound N es (ds.foldl relax L)
 | [],_,_,_,h=>h
 | d :: ds,L,hsub,hl,h=>by
  rw [List.foldl_cons]
  exact Qfi hE (fun e he=>hsub e (List.mem_cons_of_mem _ he)) (by rw [QcL,hl]) (Qhy hl hE (hsub d (List.mem_cons_self ..)) h)
theorem Qey {N:Nat}{es:List Ed}(hE:Ends N es):∀ i,Sound N es (labAt N es i)
 | 0=>fun v hv=>⟨v,by simp [labAt,idL,hv],hv,.refl _⟩
 | i+1=>Qfi hE (fun _ h=>h) (QaB N es i) (Qey hE i)
def ball (es:List Ed):Nat→Nat→Nat→Bool
 | 0,v,u=>v==u
 | i+1,v,u=>ball es i v u || es.any fun e=>(e.1.toNat==v && ball es i e.2.1.toNat u) || (e.2.1.toNat==v && ball es i e.1.toNat u)
theorem ball_next {es:List Ed}{i v u:Nat}:ball es (i+1) v u=true↔ball es i v u=true∨∃ w,Adj es v w∧ball es i w u=true:=by
 rw [ball,Bool.or_eq_true,List.any_eq_true]
 refine or_congr_right ⟨?_,?_⟩
 ·rintro⟨e,he,h⟩
  simp only [Bool.or_eq_true,Bool.and_eq_true,beq_iff_eq] at h
  rcases h with ⟨h1,h2⟩ | ⟨h1,h2⟩
  ·exact⟨_,⟨e,he,.inl ⟨h1,rfl⟩⟩,h2⟩
  ·exact⟨_,⟨e,he,.inr ⟨rfl,h1⟩⟩,h2⟩
 ·rintro⟨w,⟨e,he,h⟩,hb⟩
  refine⟨e,he,?_⟩
  simp only [Bool.or_eq_true,Bool.and_eq_true,beq_iff_eq]
  rcases h with ⟨h1,h2⟩ | ⟨h1,h2⟩
  ·exact .inl ⟨h1,by rw [h2];exact hb⟩
  ·exact .inr ⟨h2,by rw [h1];exact hb⟩
theorem Qg6 {es:List Ed}{i v u:Nat}(h:ball es i v u=true):ball es (i+1) v u=true:=ball_next.2 (.inl h)
theorem Qdq {N:Nat}{es:List Ed}(hE:Ends N es):∀ (i:Nat) {v u:Nat},v<N→ball es i v u=true→(labAt N es i).getD v 0≤(u:Int)
 | 0,v,u,hv,h=>by
  have:v=u:=by simpa [ball] using h
  subst this
  simp [labAt,idL,hv]
 | i+1,v,u,hv,h=>by
  show (es.foldl relax (labAt N es i)).getD v 0≤_
  rcases ball_next.1 h with h | ⟨w,ha,h⟩
  ·exact Int.le_trans (Qh0 hE (QaB N es i) v) (Qdq hE i hv h)
  ·have hw:w<N:=by
    obtain⟨e,he,h1⟩:=ha
    have:=hE e he
    rcases h1 with ⟨_,rfl⟩ | ⟨rfl,_⟩
    ·exact this.2
    ·exact this.1
   exact Int.le_trans (QiN hE (QaB N es i) ha) (Qdq hE i hw h)
theorem QeO {α:Type}{p q:α→Bool}:∀ {l:List α},(∀ x∈l,p x=true→q x=true)→(∃ x∈l,q x=true∧p x=false)→l.countP p+1≤l.countP q
 | [],_,h=>by obtain⟨x,hx,_⟩:=h;simp at hx
 | a :: l,hm,h=>by
  obtain⟨x,hx,hq,hp⟩:=h
  have mono:l.countP p≤l.countP q:=List.countP_mono_left fun y hy=>hm y (List.mem_cons_of_mem _ hy)
  rw [List.countP_cons,List.countP_cons]
  rcases List.mem_cons.1 hx with rfl | hx
  ·rw [hq,hp]
   simp
   exact mono
  ·have ih:=QeO (l:=l) (fun y hy=>hm y (List.mem_cons_of_mem _ hy)) ⟨x,hx,hq,hp⟩
   have ha:=hm a (List.mem_cons_self ..)
   cases hpa:p a with
   | false=>cases q a <;> simp <;> omega
   | true=>rw [ha hpa];simp;omega
theorem Qbn {N:Nat}{es:List Ed}(hE:Ends N es){v w:Nat}(h:Adj es v w):v<N∧w<N:=by
 obtain⟨e,he,h1⟩:=h
 have:=hE e he
 rcases h1 with ⟨rfl,rfl⟩ | ⟨rfl,rfl⟩
 ·exact this
 ·exact⟨this.2,this.1⟩
def Still (N:Nat)(es:List Ed)(u i:Nat):Prop:=∀ v,v<N→ball es (i+1) v u=true→ball es i v u=true
theorem Qfx {N:Nat}{es:List Ed}(hE:Ends N es){u i:Nat}(h:Still N es u i):∀ k,∀ v,v<N→ball es (i+k) v u=true→ball es i v u=true
 | 0,_,_,hb=>hb
 | k+1,v,hv,hb=>by
  have hb':ball es (i+k+1) v u=true:=hb
  rcases ball_next.1 hb' with h1 | ⟨w,ha,h1⟩
  ·exact Qfx hE h k v hv h1
  ·exact h v hv (ball_next.2 (.inr ⟨w,ha,Qfx hE h k w (Qbn hE ha).2 h1⟩))
theorem Qie {es:List Ed}{i v u:Nat}(h:ball es i v u=true):∀ k,ball es (i+k) v u=true
 | 0=>h
 | k+1=>Qg6 (Qie h k)
def cntB (N:Nat)(es:List Ed)(u i:Nat):Nat:=(List.range N).countP fun v=>ball es i v u
theorem QeZ {N:Nat}{es:List Ed}{u:Nat}(hu:u<N):∀ i,(∃ j,j<i∧Still N es u j)∨i+1≤cntB N es u i
 | 0=>by
  refine .inr ?_
  have:0<cntB N es u 0:=List.countP_pos_iff.2 ⟨u,List.mem_range.2 hu,by simp [ball]⟩
  omega
 | i+1=>by
  rcases QeZ (N:=N) (es:=es) hu i with ⟨j,hj,h⟩ | h
  ·exact .inl ⟨j,by omega,h⟩
  ·by_cases hs:Still N es u i
   ·exact .inl ⟨i,by omega,hs⟩
   ·refine .inr ?_
    have hex:∃ v,v<N∧ball es (i+1) v u=true∧ball es i v u=false:=by
     refine Classical.byContradiction fun hno=>hs fun v hv hb=>?_
     cases hc:ball es i v u with
     | true=>rfl
     | false=>exact absurd ⟨v,hv,hb,hc⟩ hno
    obtain⟨v,hv,h1,h2⟩:=hex
    have:=QeO (l:=List.range N) (p:=fun v=>ball es i v u) (q:=fun v=>ball es (i+1) v u) (fun x _ hx=>Qg6 hx) ⟨v,List.mem_range.2 hv,h1,h2⟩
    have h3:cntB N es u i+1≤cntB N es u (i+1):=this
    omega
theorem Qmc {es:List Ed}{v u:Nat}(h:Conn es v u):∃ k,ball es k v u=true:=by
 induction h using Conn.ind with
 | refl v=>exact⟨0,by simp [ball]⟩
 | step ha _ ih=>
  obtain⟨k,hk⟩:=ih
  exact⟨k+1,ball_next.2 (.inr ⟨_,ha,hk⟩)⟩
theorem Qg3 {N:Nat}{es:List Ed}(hE:Ends N es){v u:Nat}(hv:v<N)(hu:u<N)(h:Conn es v u):ball es N v u=true:=by
 obtain⟨k,hk⟩:=Qmc h
 rcases QeZ (N:=N) (es:=es) hu N with ⟨j,hj,hs⟩ | hc
 ·have h1:ball es j v u=true:=by
   by_cases hkj:k≤j
   ·have:=Qie hk (j-k)
    rwa [show k+(j-k)=j by omega] at this
   ·exact Qfx hE hs (k-j) v hv (by rw [show j+(k-j)=k by omega];exact hk)
  have:=Qie h1 (N-j)
  rwa [show j+(N-j)=N by omega] at this
 ·have:cntB N es u N≤N:=by
   have:=List.countP_le_length (p:=fun v=>ball es N v u) (l:=List.range N)
   rw [List.length_range] at this
   exact this
  omega
theorem Qa0 {N:Nat}{es:List Ed}(hE:Ends N es){v:Nat}(hv:v<N):∃ x:Nat,(labAt N es N).getD v 0=(x:Int)∧x<N∧Conn es v x∧∀ u,u<N→Conn es v u→x≤u:=by
 obtain⟨x,hx,hxN,hc⟩:=Qey hE N v hv
 refine⟨x,hx,hxN,hc,fun u hu h=>?_⟩
 have:=Qdq hE N hv (Qg3 hE hv hu h)
 rw [hx] at this
 omega
theorem Qc0 {N:Nat}{es:List Ed}(hE:Ends N es){v u:Nat}(hv:v<N)(hu:u<N):(labAt N es N).getD v 0=(labAt N es N).getD u 0↔Conn es v u:=by
 obtain⟨x,hx,hxN,hxc,hxl⟩:=Qa0 hE hv
 obtain⟨y,hy,hyN,hyc,hyl⟩:=Qa0 hE hu
 rw [hx,hy]
 constructor
 ·intro e
  have:x=y:=by omega
  subst this
  exact hxc.trans hyc.symm
 ·intro h
  have h1:=hxl y hyN (h.trans hyc)
  have h2:=hyl x hxN (h.symm.trans hxc)
  omega
theorem Qao {N:Nat}{es:List Ed}(h:RightG (N:Int) es):Ends N es:=fun e he=>by
 have:=(h.each e he).1
 unfold okE at this
 omega
end Go.Proofs.YtalflecmadacaaaGreat
